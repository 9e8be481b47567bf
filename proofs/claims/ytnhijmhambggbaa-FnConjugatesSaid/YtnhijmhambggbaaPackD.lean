/-
  Texts of this claim, one behind the other: Tot, Conj, Stair, LawsQ, SortL, Key, Entry, LMap.
-/
import Derived.Test.YtnhijmhambggbaaPackC
import Derived.Test.YtnhijmhambggbaaPackB
import Derived.DeepKeys5
import Derived.Maps.OwnSet
import Derived.Maps.RangeWalk
import Derived.WideKeyEntry
import Derived.Test.YtnhijmhambggbaaPackA
/-
  total of the laws.
-/
namespace Go.Proofs.Ytnhijmhambggbaa
open Go.RowKit

set_option maxHeartbeats 400000 in
theorem lawTotal_any (v : Value) (r : List Int) (w : World) (hin : InRow w v r) (hs : SmallL r) :
    Calls Try.prog 16 #[v] w fun e w' => e = .returned (.int .i64 r.sum) ∧ w = w' := by
  obtain ⟨a, c, rfl, hm, hp⟩ := hin
  unfold maxLen at hm
  have HS := hide hs
  by_cases h0 : r.length = 0
  · have hr : r = [] := List.eq_nil_of_length_eq_zero h0
    subst hr
    clear hp h0 hm hs
    go_enter Try.func16, Try.ntmps16
    go_wp2
    go_loop [3, 8] (fun s i => s = .int .i64 0 ∧ i = .int .i64 0) (fun _ _ => 0)
    case atStart => exact ⟨rfl, rfl⟩
    case round =>
      obtain ⟨rfl, rfl⟩ := hrel
      go_wp2
      go_ret
      exact ⟨rfl, rfl⟩
  · obtain ⟨g, o, rfl, hg, hc⟩ := hp.resolve_left h0
    have HC := hide hc
    have h5 := hs.1
    obtain ⟨n, hn⟩ : ∃ n, n = r.length := ⟨_, rfl⟩
    have HN := hide hn
    rw [← hn] at hm h5 ⊢
    clear hp hc h0 hn hs
    go_enter Try.func16, Try.ntmps16
    go_wp2
    go_loop [3, 8] (fun s i => ∃ k : Nat, k ≤ n ∧ i = .int .i64 k ∧ s = .int .i64 (r.take k).sum) (fun _ i => n - (intOf i).toNat)
    case atStart => exact ⟨0, Nat.zero_le _, rfl, rfl⟩
    case round =>
      obtain ⟨k, hk, rfl, rfl⟩ := hrel
      obtain ⟨b1, b2⟩ := sum_small HS.out k (by rw [← HN.out]; exact hk)
      by_cases hlt : k < n
      · have hk' : k < r.length := by rw [← HN.out]; exact hlt
        have hx := HC.out k hk'
        have HST := hide (sum_snoc r k hk')
        obtain ⟨b3, b4⟩ := HS.out.2 k hk'
        obtain ⟨x, hxx⟩ : ∃ x, x = r[k] := ⟨_, rfl⟩
        obtain ⟨S, hSS⟩ : ∃ S, S = (r.take k).sum := ⟨_, rfl⟩
        rw [← hxx] at hx HST b3 b4
        rw [← hSS] at HST b1 b2 ⊢
        clear hxx hSS
        go_wp2
        go_round
        case rel => exact ⟨k + 1, by omega, by go_num, by rw [HST.out]⟩
        case measure => simp [intOf]; omega
      · have HE : Hid ((r.take k).sum = r.sum) := hide (by rw [List.take_of_length_le (by have := HN.out; omega)])
        rw [HE.out]
        clear b1 b2
        go_wp2
        go_ret
        exact ⟨rfl, rfl⟩

end Go.Proofs.Ytnhijmhambggbaa
/-
  ConjugateOf, of the model and of the program.
-/
namespace Go.Proofs.Ytnhijmhambggbaa
open Go.RowKit

/-- The list g 0, .., g (n - 1). -/
def tabL (n : Nat) (g : Nat → Int) : List Int := (List.range n).map g
theorem tabL_len (n : Nat) (g : Nat → Int) : (tabL n g).length = n := by simp [tabL]
theorem tabL_at {n : Nat} {g : Nat → Int} {i : Nat} (h : i < (tabL n g).length) : (tabL n g)[i] = g i := by simp [tabL]
theorem tabL_congr {n : Nat} {g h : Nat → Int} (e : ∀ i, i < n → g i = h i) : tabL n g = tabL n h := by
  unfold tabL; exact List.map_congr_left fun i hi => e i (List.mem_range.1 hi)
theorem tabL_set (n : Nat) (g : Nat → Int) (k : Nat) (y : Int) : (tabL n g).set k y = tabL n fun t => if t = k then y else g t := by
  apply List.ext_getElem
  · simp [tabL]
  · intro i h1 h2
    rw [List.getElem_set, tabL_at h2]
    by_cases e : k = i
    · rw [if_pos e, if_pos e.symm]
    · rw [if_neg e, tabL_at, if_neg (fun h => e h.symm)]
theorem tabL_zero (n : Nat) : List.replicate n (Value.int .i64 0) = ints (tabL n fun _ => 0) := by
  apply List.ext_getElem
  · simp [ints, tabL]
  · intro i h1 h2; simp [ints, tabL]
theorem tabL_held {n : Nat} {g : Nat → Int} {i : Nat} (h : i < n) : (ints (tabL n g)).getD i undef = .int .i64 (g i) := by
  rw [List.getD_eq_getElem?_getD, ints_at _ _ (by rw [tabL_len]; exact h), tabL_at]; rfl

/-- How many of l are at least t. -/
def atLeast (t : Int) (l : List Int) : Nat := l.countP fun x => decide (t ≤ x)
theorem atLeast_le (t : Int) (l : List Int) : atLeast t l ≤ l.length := List.countP_le_length
theorem atLeast_take (t : Int) (l : List Int) (k : Nat) (h : k < l.length) : atLeast t (l.take (k + 1)) = atLeast t (l.take k) + if t ≤ l[k] then 1 else 0 := by
  rw [atLeast, List.take_succ_eq_append_getElem h, List.countP_append]
  simp [atLeast]
/-- What ConjugateOf returns. -/
def conjL (l : List Int) (n : Nat) : List Int := tabL n fun k => ((atLeast (k + 1) l : Nat) : Int)
def conjOk (l : List Int) (n : Int) : Bool := decide (1 ≤ n ∧ n ≤ 5) && (decide (l.length ≤ 5) && !l.any (badB n))
def conjRes (l : List Int) (n : Int) : List Int := if conjOk l n = true then conjL l n.toNat else []
theorem conj_no1 {l : List Int} {n : Int} (h : ¬ (1 ≤ n ∧ n ≤ 5)) : conjRes l n = [] := by rw [conjRes, conjOk, decide_eq_false h]; rfl
theorem conj_no2 {l : List Int} {n : Int} (h : 5 < l.length) : conjRes l n = [] := by rw [conjRes, conjOk, decide_eq_false (show ¬ l.length ≤ 5 by omega)]; simp
theorem conj_no3 {l : List Int} {n : Int} (h : l.any (badB n) = true) : conjRes l n = [] := by rw [conjRes, conjOk, h]; simp
theorem conj_yes {l : List Int} {n : Nat} (h1 : 1 ≤ n ∧ n ≤ 5) (h2 : l.length ≤ 5) (h : l.any (badB n) = false) : conjRes l n = conjL l n := by
  rw [conjRes, conjOk, h, decide_eq_true h2, decide_eq_true (show (1 : Int) ≤ n ∧ (n : Int) ≤ 5 by omega)]; simp

set_option maxHeartbeats 400000 in
theorem countAtLeast_any (v : Value) (r : List Int) (t : Int) (w : World) (hin : InRow w v r) (hn : r.length ≤ 5) :
    Calls Try.prog 59 #[v, .int .i64 t] w fun e w' => e = .returned (.int .i64 (atLeast t r : Nat)) ∧ w = w' := by
  obtain ⟨a, c, rfl, hm, hp⟩ := hin
  unfold maxLen at hm
  have HP := hide fun h : r.length ≠ 0 => hp.resolve_left h
  obtain ⟨n, hnn⟩ : ∃ n, n = r.length := ⟨_, rfl⟩
  have HN := hide hnn
  rw [← hnn] at hm hn ⊢
  clear hp hnn
  go_enter Try.func59, Try.ntmps59
  go_wp2
  go_loop [5, 10] (fun s i => ∃ k : Nat, k ≤ n ∧ i = .int .i64 k ∧ s = .int .i64 (atLeast t (r.take k) : Nat)) (fun _ i => n - (intOf i).toNat)
  case atStart => exact ⟨0, Nat.zero_le _, rfl, rfl⟩
  case round =>
    obtain ⟨k, hk, rfl, rfl⟩ := hrel
    have hle := Nat.le_trans (atLeast_le t (r.take k)) (show (r.take k).length ≤ 5 by rw [List.length_take]; have := HN.out; omega)
    by_cases hlt : k < n
    · obtain ⟨g, o, rfl, hg, hc⟩ := HP.out (by have := HN.out; omega)
      have hk' : k < r.length := by rw [← HN.out]; exact hlt
      have hx := hc k hk'
      have HAT := hide (atLeast_take t r k hk')
      obtain ⟨x, hxx⟩ : ∃ x, x = r[k] := ⟨_, rfl⟩
      obtain ⟨q, hq⟩ : ∃ q, q = atLeast t (r.take k) := ⟨_, rfl⟩
      rw [← hxx] at hx HAT
      rw [← hq] at hle HAT ⊢
      clear hxx hq hc
      by_cases htx : t ≤ x
      · have HAT2 : Hid (atLeast t (r.take (k + 1)) = q + 1) := hide (by rw [HAT.out, if_pos htx])
        clear HAT
        go_wp2
        go_round
        case rel => exact ⟨k + 1, by omega, by go_num, by rw [HAT2.out]; go_num⟩
        case measure => simp [intOf]; omega
      · have HAT2 : Hid (atLeast t (r.take (k + 1)) = q) := hide (by rw [HAT.out, if_neg htx]; rfl)
        clear HAT
        go_wp2
        go_round
        case rel => exact ⟨k + 1, by omega, by go_num, by rw [HAT2.out]⟩
        case measure => simp [intOf]; omega
    · have HE : Hid (r.take k = r) := hide (List.take_of_length_le (by have := HN.out; omega))
      rw [HE.out] at hle ⊢
      go_wp2
      go_ret
      exact ⟨rfl, rfl⟩
set_option maxHeartbeats 400000 in
theorem conjAt_any (v : Value) (r : List Int) (t : Int) (q : Nat) (w : World) (hin : InRow w v r) (hn : r.length ≤ 5) (hc : w.cell? ⟨q, 0, none⟩ = some v) :
    Calls Try.prog 58 #[.int .i64 t, .pointer (some ⟨q, 0, none⟩)] w fun e w' => e = .returned (.int .i64 (atLeast t r : Nat)) ∧ w = w' := by
  have HI := hide hin
  obtain ⟨a, c, rfl, -, -⟩ := hin
  go_enter Try.func58, Try.ntmps58
  go_wp2_with ((with_reducible refine (countAtLeast_any _ r t _ HI.out hn).mono ?_); rintro e w' ⟨rfl, rfl⟩)
  go_ret
  exact ⟨rfl, rfl⟩
set_option maxHeartbeats 1000000 in
theorem collectInt_any (v : Value) (r : List Int) (n q : Nat) (w : World) (hin : InRow w v r) (hr : r.length ≤ 5) (hq : q < w.heap.size) (hc : w.cell? ⟨q, 0, none⟩ = some v) (h : 1 ≤ n ∧ n ≤ 5) :
    Calls Try.prog 57 #[.int .i64 n, .func (.func 58) #[] #[.pointer (some ⟨q, 0, none⟩)]] w (IntsRes (conjL r n) w) := by
  have HI := hide hin; have HR := hide hr; have HC := hide hc; have HQ := hide hq
  obtain ⟨h11, h12⟩ := h
  clear hin hr hc hq
  go_enter Try.func57, Try.ntmps57
  go_wp2_with (at_make; refine wpList_new w.heap.size n (.int .i64 0) rfl _ _ rfl Try.underlying25 Try.infoInt rfl (by decide) rfl rfl (by omega) (Nat.le_refl _) ?_; intro w1 hown1 hb1 hg1)
  have HO := hide hown1; have HB := hide hb1
  clear hown1 hb1 hg1
  go_wp2
  go_loopw [10] (fun i w' => ∃ k : Nat, k ≤ n ∧ i = .int .i64 k ∧ w'.ownsRow w.heap.size 3 1 (.slice (some ⟨w.heap.size, 0, none⟩) n n) n (ints (tabL n fun t => if t < k then ((atLeast (t + 1) r : Nat) : Int) else 0)) ∧ Below w.heap.size w w') (fun i _ => n - (intOf i).toNat)
  case atStart => exact ⟨0, Nat.zero_le _, rfl, by rw [tabL_zero] at HO; exact HO.out, HB.out⟩
  case round =>
    clear HO HB
    obtain ⟨k, hk, rfl, hown, hb⟩ := hrel
    have HO := hide hown; have HB := hide hb
    clear hown hb
    by_cases hlt : k < n
    · have hc1 := cell_held HO.out hlt
      have hf := HO.out.frozenAt k
      have HS := HO.out.stored k (.int .i64 (atLeast ((k : Int) + 1) r : Nat))
      rw [ints_set, tabL_set] at HS
      have e2 : (tabL n fun t => if t = k then ((atLeast ((k : Int) + 1) r : Nat) : Int) else if t < k then ((atLeast (t + 1) r : Nat) : Int) else 0) = tabL n fun t => if t < k + 1 then ((atLeast (t + 1) r : Nat) : Int) else 0 := tabL_congr fun i _ => by
        by_cases e : i = k
        · subst e; rw [if_pos rfl, if_pos (Nat.lt_succ_self _)]
        · rw [if_neg e]
          by_cases e' : i < k
          · rw [if_pos e', if_pos (by omega)]
          · rw [if_neg e', if_neg (by omega)]
      rw [e2] at HS
      have HS := hide HS
      clear e2
      have hle := Nat.le_trans (atLeast_le ((k : Int) + 1) r) HR.out
      have HCA := hide (conjAt_any v r ((k : Int) + 1) q wr (inRow_below HI.out HB.out) HR.out (below_cell HB.out HQ.out HC.out))
      obtain ⟨z, hz⟩ : ∃ z, z = atLeast ((k : Int) + 1) r := ⟨_, rfl⟩
      rw [← hz] at HS hle HCA
      clear hz
      go_wp2_with (go_at_call 58; refine HCA.out.mono ?_; rintro e w9 ⟨rfl, rfl⟩)
      go_roundw
      case rel => exact ⟨k + 1, by omega, by go_num, HS.out.1, HB.out.setCell (Nat.le_refl _) _⟩
      case measure => simp [intOf]; omega
    · obtain rfl : k = n := by omega
      have e3 : (tabL k fun t => if t < k then ((atLeast (t + 1) r : Nat) : Int) else 0) = conjL r k := tabL_congr fun i hi => by rw [if_pos hi]
      have HO : Hid _ := hide (e3 ▸ HO.out)
      clear e3
      go_wp2
      go_ret
      exact ⟨_, rfl, by rw [conjL, tabL_len]; exact HO.out, HB.out⟩
/-- .. and nil where there are none. -/
def IntsNil (r : List Int) (w : World) (e : Ending) (w' : World) : Prop := IntsRes r w e w' ∧ (r = [] → e = .returned (.slice none 0 0))
set_option maxHeartbeats 1000000 in
theorem implConj_nil (v : Value) (l : List Int) (n : Int) (w : World) (hin : InRow w v l) :
    Calls Try.prog 14 #[v, .int .i64 n] w (IntsNil (conjRes l n) w) := by
  have hbox := (Below.refl w.heap.size w).alloc (Nat.le_refl _) (.cells #[v] 25)
  have HI := hide (inRow_below hin hbox); have HBX := hide hbox
  have HCX := hide (show (w.alloc (.cells #[v] 25)).cell? ⟨w.heap.size, 0, none⟩ = some v by simp [World.cell?_alloc_new])
  obtain ⟨a, c, rfl, hm, -⟩ := hin
  unfold maxLen at hm
  clear hbox
  by_cases h : 1 ≤ n ∧ n ≤ 5
  · have HE := hide (decide_eq_true h)
    obtain ⟨h11, h12⟩ := h
    by_cases h2 : l.length ≤ 5
    · obtain ⟨m, rfl⟩ : ∃ m : Nat, n = m := ⟨n.toNat, by omega⟩
      have HL := hide h2
      cases h3 : l.any (badB m) with
      | true =>
        rw [conj_no3 h3]
        have H3 := hide h3
        clear h3
        go_enter Try.func14, Try.ntmps14
        go_wp2_with (first | (with_reducible refine (sideOk_any (m : Int) _).mono ?_; rw [HE.out]; rintro e w' ⟨rfl, rfl⟩) | ((with_reducible refine (sumsInRange_any _ l (m : Int) _ HI.out).mono ?_); rw [H3.out]; rintro e w1 ⟨rfl, b1⟩; have B1 := hide (HBX.out.trans (b1.mono HBX.out.size)); clear b1))
        go_ret
        exact ⟨intsRes_nil B1.out, fun _ => rfl⟩
      | false =>
        rw [conj_yes ⟨by omega, by omega⟩ h2 h3]
        have H3 := hide h3
        clear h3
        go_enter Try.func14, Try.ntmps14
        go_wp2_with (first | (with_reducible refine (sideOk_any (m : Int) _).mono ?_; rw [HE.out]; rintro e w' ⟨rfl, rfl⟩) | ((with_reducible refine (sumsInRange_any _ l (m : Int) _ HI.out).mono ?_); rw [H3.out]; rintro e w1 ⟨rfl, b1⟩; have B1 := hide (HBX.out.trans (b1.mono HBX.out.size)); have I1 := hide (inRow_below HI.out b1); have C1 := hide (below_cell b1 (by simp) HCX.out); have hs1 := b1.size; rw [World.size_alloc] at hs1; clear b1) | ((with_reducible refine (collectInt_any _ l m w.heap.size _ I1.out HL.out (by omega) C1.out ⟨by omega, by omega⟩).mono ?_); rintro e w2 ⟨u, rfl, ho, hb⟩; have HO := hide (own_base ho B1.out.size); have HB2 := hide (B1.out.trans (hb.mono B1.out.size)); clear ho hb))
        go_ret
        exact ⟨⟨_, rfl, HO.out, HB2.out⟩, fun h => absurd (congrArg List.length h) (by rw [conjL, tabL_len]; simp; omega)⟩
    · rw [conj_no2 (by omega)]
      go_enter Try.func14, Try.ntmps14
      go_wp2_with (first | (with_reducible refine (sideOk_any n _).mono ?_; rw [HE.out]; rintro e w' ⟨rfl, rfl⟩))
      go_ret
      exact ⟨intsRes_nil HBX.out, fun _ => rfl⟩
  · rw [conj_no1 h]
    have HE := hide (decide_eq_false h)
    clear h
    go_enter Try.func14, Try.ntmps14
    go_wp2_with (first | (with_reducible refine (sideOk_any n _).mono ?_; rw [HE.out]; rintro e w' ⟨rfl, rfl⟩))
    go_ret
    exact ⟨intsRes_nil HBX.out, fun _ => rfl⟩
theorem implConj_any (v : Value) (l : List Int) (n : Int) (w : World) (hin : InRow w v l) :
    Calls Try.prog 14 #[v, .int .i64 n] w (IntsRes (conjRes l n) w) := (implConj_nil v l n w hin).mono fun _ _ h => h.1
end Go.Proofs.Ytnhijmhambggbaa
/-
  StaircaseOf, of the model and of the program.
-/
namespace Go.Proofs.Ytnhijmhambggbaa
open Go.RowKit

/-- The row that begins with s black cells. -/
def begF (s : Int) (x : Nat) : Int := if (x : Int) < s then 1 else 0
def stairF (r : List Int) (y : Nat) : Nat → Int := begF (r.getD y 0)
/-- What StaircaseOf returns. -/
def stairRes (r : List Int) (n : Int) : List (List Int) := if conjOk r n = true then mkM r.length n.toNat (stairF r) else []
theorem conj_nil_iff (r : List Int) (n : Int) : conjRes r n = [] ↔ conjOk r n = false := by
  unfold conjRes
  cases h : conjOk r n with
  | true =>
    rw [if_pos rfl]
    have h1 : 1 ≤ n := by unfold conjOk at h; simp only [Bool.and_eq_true, decide_eq_true_eq] at h; exact h.1.1
    constructor
    · intro e; have := congrArg List.length e; rw [conjL, tabL_len] at this; simp at this; omega
    · intro e; cases e
  | false => rw [if_neg (by decide)]; simp
theorem conjOk_cells {r : List Int} {n : Int} (h : conjOk r n = true) : (1 ≤ n ∧ n ≤ 5) ∧ r.length ≤ 5 ∧ ∀ y, y < r.length → 0 ≤ r.getD y 0 ∧ r.getD y 0 ≤ n := by
  unfold conjOk at h
  simp only [Bool.and_eq_true, decide_eq_true_eq, Bool.not_eq_true'] at h
  obtain ⟨h1, h2, h3⟩ := h
  refine ⟨h1, h2, fun y hy => ?_⟩
  rw [List.getD_eq_getElem?_getD, List.getElem?_eq_getElem hy, Option.getD_some]
  rw [List.any_eq_false] at h3
  have := h3 _ (List.getElem_mem hy)
  simp only [badB, Bool.or_eq_true, decide_eq_true_eq, not_or] at this
  omega

set_option maxHeartbeats 400000 in
theorem begin_any (s : Int) (C : Nat) (w : World) (h0 : 0 ≤ s) (h1 : s ≤ C) (hC : C ≤ 5) :
    Calls Try.prog 60 #[.int .i64 s, .int .i64 C] w (IntsRes (tabL C (begF s)) w) := by
  go_enter Try.func60, Try.ntmps60
  go_wp2_with (at_make; refine wpList_new w.heap.size C (.int .i64 0) rfl _ _ rfl Try.underlying25 Try.infoInt rfl (by decide) rfl rfl (by omega) (Nat.le_refl _) ?_; intro w1 hown1 hb1 hg1)
  have HO := hide hown1; have HB := hide hb1
  clear hown1 hb1 hg1
  go_wp2
  go_loopw [10] (fun i w' => ∃ k : Nat, (k : Int) ≤ s ∧ i = .int .i64 k ∧ w'.ownsRow w.heap.size 3 1 (.slice (some ⟨w.heap.size, 0, none⟩) C C) C (ints (tabL C (begF k))) ∧ Below w.heap.size w w') (fun i _ => (s - intOf i).toNat)
  case atStart => exact ⟨0, h0, rfl, by rw [tabL_zero] at HO; rw [show tabL C (begF ((0 : Nat) : Int)) = tabL C (fun _ => 0) from tabL_congr fun i _ => by rw [begF, if_neg (by omega)]]; exact HO.out, HB.out⟩
  case round =>
    clear HO HB
    obtain ⟨k, hk, rfl, hown, hb⟩ := hrel
    have HO := hide hown; have HB := hide hb
    clear hown hb
    by_cases hlt : (k : Int) < s
    · have hkC : k < C := by omega
      have hc1 := cell_held HO.out hkC
      rw [tabL_held hkC, begF, if_neg (by omega)] at hc1
      have hf := HO.out.frozenAt k
      have HS := HO.out.stored k (.int .i64 1)
      rw [ints_set, tabL_set] at HS
      have e2 : (tabL C fun t => if t = k then 1 else begF k t) = tabL C (begF ((k + 1 : Nat) : Int)) := tabL_congr fun i _ => by
        unfold begF
        by_cases e : i = k
        · subst e; rw [if_pos rfl, if_pos (by omega)]
        · rw [if_neg e]
          by_cases e' : (i : Int) < (k : Int)
          · rw [if_pos e', if_pos (by omega)]
          · rw [if_neg e', if_neg (by omega)]
      rw [e2] at HS
      have HS := hide HS
      clear e2
      go_wp2
      go_roundw
      case rel => exact ⟨k + 1, by omega, by go_num, HS.out.1, HB.out.setCell (Nat.le_refl _) _⟩
      case measure => simp [intOf]; omega
    · have e3 : (k : Int) = s := by omega
      rw [e3] at HO
      go_wp2
      go_ret
      exact ⟨_, rfl, by rw [tabL_len]; exact HO.out, HB.out⟩

theorem intsNil_nil {w w' : World} {e : Ending} (h : IntsNil [] w e w') : e = .returned (.slice none 0 0) ∧ Below w.heap.size w w' := by
  obtain ⟨⟨u, -, -, hb⟩, hn⟩ := h
  exact ⟨hn rfl, hb⟩
theorem intsNil_some {l : List Int} {w w' : World} {e : Ending} (h : IntsNil l w e w') (hl : l ≠ []) : ∃ g n c, e = .returned (.slice (some ⟨g, 0, none⟩) n c) ∧ Below w.heap.size w w' := by
  obtain ⟨⟨u, rfl, ho, hb⟩, -⟩ := h
  obtain ⟨gu, cu, rfl, -⟩ := own_some ho (List.length_pos_iff.2 hl)
  exact ⟨_, _, _, rfl, hb⟩
set_option maxHeartbeats 400000 in
theorem implStair_no (v : Value) (r : List Int) (n : Int) (w : World) (hin : InRow w v r) (h : conjOk r n = false) :
    Calls Try.prog 15 #[v, .int .i64 n] w (MatRes [] w) := by
  have HI := hide hin
  have HE := hide ((conj_nil_iff r n).2 h)
  obtain ⟨a, c, rfl, hm, -⟩ := hin
  unfold maxLen at hm
  obtain ⟨R, hRR⟩ : ∃ R, R = r.length := ⟨_, rfl⟩
  rw [← hRR] at HI hm ⊢
  clear h hRR
  have heqn := fun (w : World) (a : Option Addr) (n c : Nat) => Lib.run_eql_slice_nil (P := Try.prog) w 25 3 a n c 0 0 Try.underlying25
  go_enter Try.func15, Try.ntmps15
  go_wp2_with ((with_reducible refine (implConj_nil _ r n _ HI.out).mono ?_); rw [HE.out]; intro e w1 hi; obtain ⟨rfl, hb⟩ := intsNil_nil hi; clear hi; have HB := hide hb; clear hb)
  go_ret
  exact matRes_nil HB.out
set_option maxHeartbeats 1000000 in
theorem implStair_yes (v : Value) (r : List Int) (C : Nat) (w : World) (hin : InRow w v r) (h : conjOk r C = true) :
    Calls Try.prog 15 #[v, .int .i64 C] w (MatRes (mkM r.length C (stairF r)) w) := by
  have HI := hide hin
  obtain ⟨hC, hR, hx⟩ := conjOk_cells h
  have HX := hide hx
  have HE : Hid (conjRes r C ≠ []) := hide (by rw [Ne, conj_nil_iff, h]; decide)
  obtain ⟨a, c, rfl, hm, hp⟩ := hin
  unfold maxLen at hm
  have HP := hide fun h : r.length ≠ 0 => hp.resolve_left h
  obtain ⟨R, hRR⟩ : ∃ R, R = r.length := ⟨_, rfl⟩
  have HR := hide hRR
  rw [← hRR] at HI hm hR ⊢
  obtain ⟨hC1, hC2⟩ := hC
  clear hp hRR hx h
  have heqn := fun (w : World) (a : Option Addr) (n c : Nat) => Lib.run_eql_slice_nil (P := Try.prog) w 25 3 a n c 0 0 Try.underlying25
  go_enter Try.func15, Try.ntmps15
  go_wp2_with ((with_reducible refine (implConj_nil _ r C _ HI.out).mono ?_); intro e w1 hi; obtain ⟨gu, nu, cu, rfl, hb⟩ := intsNil_some hi HE.out; clear hi; have HB := hide hb; clear hb)
  go_loopw [5, 14] (fun o i w' => ∃ (y : Nat) (u : Value), y ≤ R ∧ i = .int .i64 y ∧ u = o ∧ OwnMat w' w.heap.size w'.heap.size u (mkM y C (stairF r)) ∧ Below w.heap.size w w') (fun _ i _ => R - (intOf i).toNat)
  case atStart => exact ⟨0, _, by omega, rfl, rfl, ownMat_nil _ _ _, HB.out⟩
  case round =>
    clear HB
    obtain ⟨y, u, hy, rfl, rfl, hown, hb⟩ := hrel
    have HO := hide hown; have HB := hide hb
    clear hown hb
    by_cases hlt : y < R
    · have hyI : (y : Int) < R := by omega
      have hsz := HB.out.size
      have hy' : y < r.length := by rw [← HR.out]; exact hlt
      obtain ⟨g, o, rfl, hg, hc⟩ := HP.out (by omega)
      have hxc := below_cell HB.out hg (hc y hy')
      have hxr := HX.out y hy'
      have HST : Hid (stairF r y = begF r[y]) := hide (by rw [stairF, List.getD_eq_getElem?_getD, List.getElem?_eq_getElem hy', Option.getD_some])
      rw [List.getD_eq_getElem?_getD, List.getElem?_eq_getElem hy', Option.getD_some] at hxr
      obtain ⟨s, hs⟩ : ∃ s, s = r[y] := ⟨_, rfl⟩
      rw [← hs] at hxc hxr HST
      obtain ⟨hs0, hs1⟩ := hxr
      clear hs hc
      go_wp2_with (first | ((with_reducible refine (begin_any s C _ hs0 hs1 (by omega)).mono ?_); rintro e w2 ⟨u2, rfl, hu2, hb2⟩; rw [tabL_len] at hu2; obtain ⟨ua, uc, rfl⟩ := own_slice hu2; have HU := hide hu2; have O2 := hide (ownMat_below HO.out hb2); have B2 := hide (HB.out.trans (hb2.mono hsz)); have hs2 := hb2.size; clear hu2 hb2; obtain ⟨vs, hv, hvh, hvr, hva⟩ := O2.out; have hvl := mkM_len y C (stairF r); rw [hvl] at hv; have HV := hide hv; have HVR := hide hvr; have HVA := hide hva; clear hv hvh hvr hva hvl) | (at_builtin; refine wpList_push HV.out (.slice ua C uc) (.slice none 0 0) rfl _ _ rfl Try.underlying23 Try.infoInts rfl (by decide) rfl rfl rfl (by omega) (by omega) ?_; intro v' w6 hown1 hb1 hg1))
      go_roundw
      case rel =>
        have hs6 := hb1.size
        have hp := ownMat_push (r := rowF C (stairF r y)) (hi' := w6.heap.size) HVR.out HVA.out (by rw [mkM_len]; exact HV.out) (by rw [rowF_len, HST.out]; exact HU.out) hsz (by omega) (by omega) hg1 (by rw [mkM_len]; exact hown1) (fun k e => (hown1.lt k e).2)
        rw [← mkM_succ] at hp
        exact ⟨y + 1, _, by omega, by go_num, rfl, hp, B2.out.trans (hb1.mono (by omega))⟩
      case measure => simp [intOf]; omega
    · obtain rfl : y = R := by omega
      go_wp2
      go_ret
      exact ⟨_, rfl, HO.out, HB.out⟩
theorem implStair_any (v : Value) (r : List Int) (n : Int) (w : World) (hin : InRow w v r) :
    Calls Try.prog 15 #[v, .int .i64 n] w (MatRes (stairRes r n) w) := by
  unfold stairRes
  cases h : conjOk r n with
  | true =>
    obtain ⟨C, rfl⟩ : ∃ C : Nat, n = C := ⟨n.toNat, by have := (conjOk_cells h).1; omega⟩
    rw [if_pos rfl]; exact implStair_yes v r C w hin h
  | false => rw [if_neg (by decide)]; exact implStair_no v r n w hin h

end Go.Proofs.Ytnhijmhambggbaa
/-
  The exact law on SumsOk, walked.
-/
namespace Go.Proofs.Ytnhijmhambggbaa
open Go.RowKit
set_option linter.unusedVariables false

/-- What 'open_ints' hands over. -/
theorem inRow_of {w : World} {x : Addr} {l c : Nat} {zs : List Int} (hl : l ≤ c) (hm : c ≤ maxLen) (hz : zs.length = c) (hcell : ∀ i, i < zs.length → w.cell? (x.add i) = some (.int .i64 (zs.getD i 0))) : InRow w (.slice (some x) l c) (zs.take l) := by
  have hlen : (zs.take l).length = l := by rw [List.length_take]; omega
  refine ⟨some x, c, by rw [hlen], by omega, ?_⟩
  by_cases h0 : l = 0
  · exact .inl (by omega)
  · refine .inr ?_
    obtain ⟨g, o, spot⟩ := x
    have hc := hcell 0 (by omega)
    have hspot : spot = none := by simpa [Addr.add] using World.cell?_spot hc
    subst hspot
    refine ⟨g, o, rfl, by have := World.block_lt_of_cell? w _ hc; simpa [Addr.add] using this, fun i hi => ?_⟩
    have := hcell i (by omega)
    rw [addr_add] at this
    rw [this, List.getElem_take, List.getD_eq_getElem?_getD, List.getElem?_eq_getElem (by omega)]; rfl

end Go.Proofs.Ytnhijmhambggbaa
/-
  Lists of integers in descending order, and SortedDown of the model.
-/
namespace Go.Proofs.Ytnhijmhambggbaa
open Go.RowKit

def Desc (l : List Int) : Prop := l.Pairwise fun x y => y ≤ x
theorem desc_unique : ∀ {a b : List Int}, a.Perm b → Desc a → Desc b → a = b := by
  intro a
  induction a with
  | nil => intro b hp _ _; exact hp.nil_eq
  | cons x a ih =>
    intro b hp ha hb
    cases b with
    | nil => exact absurd hp.symm.nil_eq (by simp)
    | cons y b =>
      have hxy : x = y := by
        have h1 : x ∈ y :: b := hp.subset (List.mem_cons_self ..)
        have h2 : y ∈ x :: a := hp.symm.subset (List.mem_cons_self ..)
        rw [List.mem_cons] at h1 h2
        rcases h1 with h1 | h1
        · exact h1
        · rcases h2 with h2 | h2
          · exact h2.symm
          · have h3 := (List.pairwise_cons.1 hb).1 x h1
            have h4 := (List.pairwise_cons.1 ha).1 y h2
            omega
      subst hxy
      rw [ih hp.cons_inv (List.pairwise_cons.1 ha).2 (List.pairwise_cons.1 hb).2]
/-- What SortedDown returns. -/
def sortD (l : List Int) : List Int := l.mergeSort fun x y => decide (y ≤ x)
theorem sortD_perm (l : List Int) : (sortD l).Perm l := List.mergeSort_perm l _
theorem sortD_desc (l : List Int) : Desc (sortD l) := by
  have h := List.pairwise_mergeSort (le := fun x y : Int => decide (y ≤ x)) (by simp; omega) (by simp; omega) l
  exact h.imp fun h => by simpa using h
theorem sortD_of {l s : List Int} (hp : s.Perm l) (hs : Desc s) : s = sortD l := desc_unique (hp.trans (sortD_perm l).symm) hs (sortD_desc l)
theorem sortD_len (l : List Int) : (sortD l).length = l.length := (sortD_perm l).length_eq

/-- x among s, at q. -/
def bub (s : List Int) (x : Int) (q : Nat) : List Int := s.take q ++ x :: s.drop q
theorem bub_len {s : List Int} {x : Int} {q : Nat} (h : q ≤ s.length) : (bub s x q).length = s.length + 1 := by simp [bub]; omega
theorem bub_end (s : List Int) (x : Int) : bub s x s.length = s ++ [x] := by simp [bub]
theorem bub_self {s : List Int} {x : Int} {q : Nat} (h : q ≤ s.length) : (ints (bub s x q)).getD q undef = .int .i64 x := by
  rw [List.getD_eq_getElem?_getD, ints_at _ _ (by rw [bub_len h]; omega)]
  simp only [bub, Option.getD_some, Value.int.injEq, true_and]
  rw [List.getElem_append_right (by simp; omega)]
  simp [Nat.min_eq_left h]
theorem bub_eq {s : List Int} {x : Int} {p : Nat} (h : p < s.length) : bub s x (p + 1) = s.take p ++ s[p] :: x :: s.drop (p + 1) := by
  rw [bub, List.take_succ_eq_append_getElem h, List.append_assoc]; rfl
theorem bub_prev {s : List Int} {x : Int} {p : Nat} (h : p < s.length) : (ints (bub s x (p + 1))).getD p undef = .int .i64 s[p] := by
  rw [List.getD_eq_getElem?_getD, ints_at _ _ (by rw [bub_len (by omega)]; omega)]
  simp only [bub_eq h, Option.getD_some, Value.int.injEq, true_and]
  rw [List.getElem_append_right (by simp; omega)]
  simp [Nat.min_eq_left (Nat.le_of_lt h)]
theorem bub_step {s : List Int} {x : Int} {p : Nat} (h : p < s.length) : ((bub s x (p + 1)).set (p + 1) s[p]).set p x = bub s x p := by
  have hl : (s.take p).length = p := by rw [List.length_take]; omega
  rw [bub_eq h, List.set_append_right _ _ (by omega), hl, show p + 1 - p = 0 + 1 by omega, List.set_cons_succ, List.set_cons_zero, List.set_append_right _ _ (by omega), hl, Nat.sub_self, List.set_cons_zero, bub, List.drop_eq_getElem_cons h]
theorem bub_perm (s : List Int) (x : Int) (q : Nat) : (bub s x q).Perm (x :: s) := by
  have h : (bub s x q).Perm (x :: (s.take q ++ s.drop q)) := List.perm_middle
  rwa [List.take_append_drop] at h
theorem bub_desc {s : List Int} {x : Int} {q : Nat} (hq : q ≤ s.length) (hs : Desc s) (h1 : ∀ y ∈ s.drop q, y < x) (h2 : ∀ p, (h : p < s.length) → p + 1 = q → x ≤ s[p]) : Desc (bub s x q) := by
  have hs' := hs
  unfold Desc at hs
  rw [← List.take_append_drop q s, List.pairwise_append] at hs
  obtain ⟨a1, a2, a3⟩ := hs
  have hx : ∀ a ∈ s.take q, x ≤ a := fun a ha => by
    obtain ⟨i, hi, rfl⟩ := List.getElem_of_mem ha
    rw [List.length_take] at hi
    rw [List.getElem_take]
    have h3 := h2 (q - 1) (by omega) (by omega)
    by_cases e : i = q - 1
    · subst e; exact h3
    · have := List.pairwise_iff_getElem.1 hs' i (q - 1) (by omega) (by omega) (by omega)
      omega
  refine List.pairwise_append.2 ⟨a1, List.pairwise_cons.2 ⟨fun y hy => by have := h1 y hy; omega, a2⟩, fun a ha b hb => ?_⟩
  rcases List.mem_cons.1 hb with rfl | hb
  · exact hx a ha
  · exact a3 a ha b hb

end Go.Proofs.Ytnhijmhambggbaa
/-
  The keys of the program's map of lines: a direction and a number.
-/
namespace Go.Proofs.Ytnhijmhambggbaa
open Go.RowKit
set_option maxRecDepth 100000

/-- A line: its direction and its number. -/
structure Key where
  x : Int
  y : Int
  n : Int
instance : DecidableEq Key := fun a b =>
  if h : a.x = b.x ∧ a.y = b.y ∧ a.n = b.n then isTrue (by obtain ⟨x, y, n⟩ := a; obtain ⟨x', y', n'⟩ := b; simp only at h; obtain ⟨rfl, rfl, rfl⟩ := h; rfl)
  else isFalse fun e => h (by rw [e]; exact ⟨rfl, rfl, rfl⟩)
def Key.wf (k : Key) : Prop := (Lit.int .i64 k.x).wf = true ∧ (Lit.int .i64 k.y).wf = true ∧ (Lit.int .i64 k.n).wf = true
def keyV (k : Key) : Value := .agg #[.int .i64 k.x, .int .i64 k.y, .int .i64 k.n]
theorem Try.laidOut : laidOutB Try.prog = true := by kernel_rfl
theorem Try.keyTy : Try.prog.keyType 129 = true := by kernel_rfl
theorem Try.cellsKey : Try.prog.cellsOf 129 = 3 := by kernel_rfl
theorem Try.cellsDir : Try.prog.cellsOf 67 = 2 := by kernel_rfl
theorem Try.cellsInt : Try.prog.cellsOf 3 = 1 := by kernel_rfl
theorem Try.keyLaw : Maps.Keyed Try.prog 129 := Maps.Keyed.of_law (deep_law_gate Try.laidOut (of_decide_eq_true (by kernel_rfl)) (of_decide_eq_true (by kernel_rfl)) Try.keyTy (by rw [Try.underlying129]))
theorem intLits (d : Nat) (v : Value) (L : List Lit) (h : Try.prog.keyLits (d + 1) 3 [v] = some L) : ∃ x, v = .int .i64 x ∧ (Lit.int .i64 x).wf = true := by
  unfold Program.keyLits at h
  rw [Try.underlying3] at h
  cases v <;> simp at h
  obtain ⟨⟨rfl, hw⟩, -⟩ := h
  exact ⟨_, rfl, hw⟩
theorem intLits_mk (d : Nat) (x : Int) (h : (Lit.int .i64 x).wf = true) : Try.prog.keyLits (d + 1) 3 [.int .i64 x] = some [.int .i64 x] := by
  unfold Program.keyLits
  rw [Try.underlying3]
  simp only
  rw [if_pos ⟨trivial, h⟩]
theorem dirLits_mk (d : Nat) (x y : Int) (h1 : (Lit.int .i64 x).wf = true) (h2 : (Lit.int .i64 y).wf = true) : Try.prog.keyLits (d + 2) 67 [.int .i64 x, .int .i64 y] = some [.int .i64 x, .int .i64 y] := by
  unfold Program.keyLits
  rw [Try.underlying67]
  simp only
  rw [if_pos ⟨by rw [Try.cellsDir]; rfl, by decide +kernel⟩]
  simp only [Try.cellsInt, List.mapM_cons, List.mapM_nil, List.drop_zero, List.take_succ_cons, List.take_zero, List.drop_succ_cons, bind, Option.bind, pure, Option.map, intLits_mk d x h1, intLits_mk d y h2]
  rfl
theorem list2 {l : List Value} (h : l.length = 2) : ∃ a b, l = [a, b] := by
  match l, h with
  | [a, b], _ => exact ⟨a, b, rfl⟩
theorem list3 {l : List Value} (h : l.length = 3) : ∃ a b c, l = [a, b, c] := by
  match l, h with
  | [a, b, c], _ => exact ⟨a, b, c, rfl⟩
theorem dirLits (d : Nat) (c : List Value) (L : List Lit) (h : Try.prog.keyLits (d + 2) 67 c = some L) : ∃ x y, c = [.int .i64 x, .int .i64 y] ∧ (Lit.int .i64 x).wf = true ∧ (Lit.int .i64 y).wf = true := by
  unfold Program.keyLits at h
  rw [Try.underlying67] at h
  simp only at h
  split at h
  · rename_i hc
    obtain ⟨a, b, rfl⟩ := list2 (hc.1.trans Try.cellsDir)
    simp only [Try.cellsInt, List.mapM_cons, List.mapM_nil, List.drop_zero, List.take_succ_cons, List.take_zero, List.drop_succ_cons, bind, Option.bind, pure, Option.map] at h
    cases ha : Try.prog.keyLits (d + 1) 3 [a] with
    | none => rw [ha] at h; simp at h
    | some la =>
      obtain ⟨x, rfl, hx⟩ := intLits d a la ha
      cases hb : Try.prog.keyLits (d + 1) 3 [b] with
      | none => rw [ha] at h; simp [hb] at h
      | some lb =>
        obtain ⟨y, rfl, hy⟩ := intLits d b lb hb
        exact ⟨x, y, rfl, hx, hy⟩
  · cases h
theorem key_inv {v : Value} {l : Lit} (h : keyOf Try.prog 129 v = some l) : ∃ k : Key, v = keyV k ∧ k.wf := by
  obtain ⟨xs, L, rfl, h1, -⟩ := keyOf_top (by rw [Try.underlying129]) h
  have hs : ∃ d, Try.prog.types.size + 1 = d + 3 := ⟨Try.prog.types.size - 2, by have : 3 ≤ Try.prog.types.size := of_decide_eq_true (by kernel_rfl); omega⟩
  obtain ⟨d, hd⟩ := hs
  rw [hd] at h1
  unfold Program.keyLits at h1
  rw [Try.underlying129] at h1
  simp only at h1
  split at h1
  · rename_i hc
    obtain ⟨a, b, c, e⟩ := list3 (hc.1.trans Try.cellsKey)
    rw [e] at h1
    simp only [Try.cellsInt, Try.cellsDir, List.mapM_cons, List.mapM_nil, List.drop_zero, List.take_succ_cons, List.take_zero, List.drop_succ_cons, bind, Option.bind, pure, Option.map] at h1
    cases ha : Try.prog.keyLits (d + 2) 67 [a, b] with
    | none => rw [ha] at h1; simp at h1
    | some la =>
      obtain ⟨x, y, hxy, hx, hy⟩ := dirLits d _ la ha
      simp only [List.cons.injEq, and_true] at hxy
      obtain ⟨rfl, rfl⟩ := hxy
      cases hb : Try.prog.keyLits (d + 2) 3 [c] with
      | none => rw [ha] at h1; simp [hb] at h1
      | some lb =>
        obtain ⟨n, rfl, hn⟩ := intLits (d + 1) c lb hb
        exact ⟨⟨x, y, n⟩, by unfold keyV; congr 1; exact Array.toList_inj.1 e, hx, hy, hn⟩
  · cases h1
theorem key_mk {k : Key} (h : k.wf) : ∃ l, keyOf Try.prog 129 (keyV k) = some l := by
  obtain ⟨x, y, n⟩ := k
  obtain ⟨h1, h2, h3⟩ := h
  have hs : ∃ d, Try.prog.types.size + 1 = d + 3 := ⟨Try.prog.types.size - 2, by have : 3 ≤ Try.prog.types.size := of_decide_eq_true (by kernel_rfl); omega⟩
  obtain ⟨d, hd⟩ := hs
  have hf : (keyV ⟨x, y, n⟩).formed Try.prog 129 = true := by
    simp [keyV, Value.formed, Try.underlying129, Try.cellsKey]
  have hL : Try.prog.keyLits (Try.prog.types.size + 1) 129 (keyV ⟨x, y, n⟩).cells.toList = some [.int .i64 x, .int .i64 y, .int .i64 n] := by
    rw [hd]
    show Try.prog.keyLits (d + 2 + 1) 129 [.int .i64 x, .int .i64 y, .int .i64 n] = _
    unfold Program.keyLits
    rw [Try.underlying129]
    simp only
    rw [if_pos ⟨by rw [Try.cellsKey]; rfl, by decide +kernel⟩]
    simp only [Try.cellsInt, Try.cellsDir, List.mapM_cons, List.mapM_nil, List.drop_zero, List.take_succ_cons, List.take_zero, List.drop_succ_cons, bind, Option.bind, pure, Option.map, dirLits_mk d x y h1 h2, intLits_mk (d + 1) n h3]
    rfl
  refine ⟨.string (keyBytes [.int .i64 x, .int .i64 y, .int .i64 n]), ?_⟩
  unfold keyOf
  rw [Try.underlying129]
  simp only [Try.keyTy, hf, Bool.and_self, if_true, hL, Option.map_some]
/-- What a key reads as. -/
noncomputable def kl (k : Key) : Lit := (keyOf Try.prog 129 (keyV k)).getD (.bool false)
theorem kl_of {k : Key} (h : k.wf) : keyOf Try.prog 129 (keyV k) = some (kl k) := by
  obtain ⟨l, hl⟩ := key_mk h
  unfold kl; rw [hl]; rfl
theorem keyV_inj {k l : Key} (h : keyV k = keyV l) : k = l := by
  obtain ⟨x, y, n⟩ := k
  obtain ⟨x', y', n'⟩ := l
  simp [keyV] at h
  obtain ⟨rfl, rfl, rfl⟩ := h; rfl
theorem kl_inj {k l : Key} (hk : k.wf) (hl : l.wf) (h : kl k = kl l) : k = l :=
  keyV_inj (Try.keyLaw.inj (kl_of hk) (h ▸ kl_of hl))
theorem kl_key {k : Key} (hk : k.wf) : WideAt.IsKeyLit (kl k) := Try.keyLaw.key (kl_of hk)
end Go.Proofs.Ytnhijmhambggbaa
/-
  'm[k] += v': the map's entry, met before or behind the look-up.
-/
namespace Go.Proofs.Ytnhijmhambggbaa
open Go.RowKit Go.Maps
open Go.ChangeMaps (setBlock)
open Go.WideElems (Fit)

theorem push_last (es : Array MapEntry) (e : MapEntry) (f : MapEntry → MapEntry) : (es.push e).modify es.size f = es.push (f e) := by
  apply Array.ext'
  rw [Array.toList_modify, Array.toList_push, Array.toList_push, ← Array.length_toList, WideElems.modify_last]
theorem modify_same (es : Array MapEntry) (j : Nat) (e0 : MapEntry) (f : MapEntry → MapEntry) (h : es[j]? = some e0) (hf : f e0 = e0) : es.modify j f = es := by
  apply Array.ext'
  rw [Array.toList_modify, ChangeMaps.modify_eq_set _ _ _ _ (by simpa using h), hf]
  exact WideElems.set_self _ _ _ (by simpa using h)

section
variable {P : Program} {t k e : TypeId} {b : Nat}
theorem find_no (K : Keyed P k) {x : Value} {lx : Lit} (hx : keyOf P k x = some lx) {es : List MapEntry} (hes : ∀ e ∈ es, ∃ l, keyOf P k e.key = some l) (h : ∀ e ∈ es, e.key ≠ x) (w : World) : (Instr.findKey k x es).run P w = .ok none w := by
  rcases K.find w hx es hes with ⟨h1, _⟩ | ⟨j, e, _, h2, h3⟩
  · exact h1
  · exact absurd h3 (h e (List.mem_of_getElem? h2))
theorem find_yes (K : Keyed P k) {x : Value} {lx : Lit} (hx : keyOf P k x = some lx) {es : List MapEntry} (hes : ∀ e ∈ es, ∃ l, keyOf P k e.key = some l) (hp : es.Pairwise fun x y => x.key ≠ y.key) {j : Nat} {e0 : MapEntry} (hj : es[j]? = some e0) (he : e0.key = x) (w : World) :
    (Instr.findKey k x es).run P w = .ok (some (j, e0.val)) w := by
  rcases K.find w hx es hes with ⟨_, h2⟩ | ⟨i, e, h1, h2, h3⟩
  · exact absurd he (h2 e0 (List.mem_of_getElem? hj))
  · have hij : i = j := by
      obtain ⟨hi, hie⟩ := List.getElem?_eq_some_iff.1 h2
      obtain ⟨hj', hje⟩ := List.getElem?_eq_some_iff.1 hj
      rcases Nat.lt_trichotomy i j with h | h | h
      · exact absurd (by rw [hie, hje, h3, he]) (List.pairwise_iff_getElem.1 hp i j hi hj' h)
      · exact h
      · exact absurd (by rw [hie, hje, h3, he]) (List.pairwise_iff_getElem.1 hp j i hj' hi h)
    subst hij
    rw [hj] at h2
    obtain rfl := Option.some.inj h2
    exact h1

/-- The entry at a key is made or found; the look-up yields the same before and behind it; the store behind it is a store at the key. -/
theorem entry_all {H : Type} {R : Value → Option (DataW H × List MemPlace)} {es : Array MapEntry} {clock : Nat} (K : Keyed P k) (ht : P.underlying t = some (.map k e)) {z : Value} (hz : ∀ u : World, (zeroValue e).run P u = .ok z u) (F : Fit P k R es clock)
    {key : Value} {lx : Lit} (hkey : keyOf P k key = some lx) :
    ∃ (v0 : Value) (st : Nat) (es1 : Array MapEntry) (clock1 : Nat),
      (∀ w : World, w.heap[b]? = some (.map es clock) → (Instr.mapEntry t (.map (some b)) key).run P w = .ok (.tuple #[v0, goInt st]) (setBlock w b (.map es1 clock1))) ∧
      (∀ w : World, w.heap[b]? = some (.map es1 clock1) → (Instr.mapEntry t (.map (some b)) key).run P w = .ok (.tuple #[v0, goInt st]) (setBlock w b (.map es1 clock1))) ∧
      (∀ w : World, w.heap[b]? = some (.map es clock) → (Instr.lookup t (.map (some b)) key false).run P w = .ok v0 w) ∧
      (∀ w : World, w.heap[b]? = some (.map es1 clock1) → (Instr.lookup t (.map (some b)) key false).run P w = .ok v0 w) ∧
      ∀ val : Value, ∃ es' clock', (∀ w : World, w.heap[b]? = some (.map es1 clock1) → (Instr.entryStore t (.map (some b)) (goInt st) val).run P w = .ok () (setBlock w b (.map es' clock'))) ∧
        ∀ w : World, w.heap[b]? = some (.map es clock) → (Instr.mapUpdate t (.map (some b)) key val).run P w = .ok () (setBlock w b (.map es' clock')) := by
  obtain ⟨s1, s2, s3⟩ := F.stamped
  have hpw : es.toList.Pairwise fun x y => x.key ≠ y.key := by have := s3; unfold List.Nodup at this; rw [List.pairwise_map] at this; exact this
  by_cases hin : ∃ (j : Nat) (e0 : MapEntry), es.toList[j]? = some e0 ∧ e0.key = key
  · obtain ⟨j, e0, h2, h3⟩ := hin
    have hf := fun w => find_yes K hkey F.keys hpw h2 h3 w
    have hj : es[j]? = some e0 := by simpa using h2
    have hsame : es.modify j (fun e => { e with key := key }) = es := modify_same es j e0 _ hj (by rw [← h3])
    have hr : ∀ w : World, w.heap[b]? = some (.map es clock) → (Instr.mapEntry t (.map (some b)) key).run P w = .ok (.tuple #[e0.val, goInt e0.born]) (setBlock w b (.map es clock)) := fun w hb => by
      simp [Instr.mapEntry, run_underlying ht, MapKept.run_getObj_map hb, K.check w false hkey, hf w, hj, h3, K.stays w hkey, hsame, MapKept.run_setObj_map _ hb, Result.andThen, setBlock]
    have hl : ∀ w : World, w.heap[b]? = some (.map es clock) → (Instr.lookup t (.map (some b)) key false).run P w = .ok e0.val w := fun w hb => by
      simp [Instr.lookup, run_underlying ht, MapKept.run_getObj_map hb, K.check w _ hkey, hf w, Result.andThen]
    refine ⟨e0.val, e0.born, es, clock, hr, hr, hl, hl, fun val => ⟨es.modify j (fun e' => { e' with key := key, val := val }), clock, fun w hb => ?_, fun w hb => ?_⟩⟩
    · have hidx : es.findIdx? (fun e => ((e.born : Nat) : Int) == ((e0.born : Nat) : Int)) = some j := by
        rw [WideElems.findIdx_arr]; exact WideElems.findIdx_born s2 h2
      have hmod : es.modify j (fun e => { e with val := val }) = es.modify j (fun e' => { e' with key := key, val := val }) := by
        apply Array.ext'
        rw [Array.toList_modify, Array.toList_modify, ChangeMaps.modify_eq_set _ _ _ _ h2, ChangeMaps.modify_eq_set _ _ _ _ h2, ← h3]
      simp [Instr.entryStore, MapKept.run_getObj_map hb, asInt, asIntOf, goInt, hidx, hmod, MapKept.run_setObj_map _ hb, Result.andThen, setBlock]
    · simp [Instr.mapUpdate, run_underlying ht, MapKept.run_getObj_map hb, K.check w false hkey, hf w, hj, h3, K.stays w hkey, MapKept.run_setObj_map _ hb, Result.andThen, setBlock]
  · have hno : ∀ x ∈ es.toList, x.key ≠ key := fun x hx e1 => by
      obtain ⟨j, hj⟩ := List.getElem?_of_mem hx
      exact hin ⟨j, x, hj, e1⟩
    have hf := fun w => find_no K hkey F.keys hno w
    have hk1 : ∀ x ∈ (es.push ⟨key, z, clock⟩).toList, ∃ l, keyOf P k x.key = some l := fun x hx => by
      rw [Array.toList_push, List.mem_append, List.mem_singleton] at hx
      rcases hx with hx | rfl
      · exact F.keys x hx
      · exact ⟨_, hkey⟩
    have hp1 : (es.push ⟨key, z, clock⟩).toList.Pairwise fun x y => x.key ≠ y.key := by
      rw [Array.toList_push]
      refine List.pairwise_append.2 ⟨hpw, List.pairwise_singleton _ _, fun x hx y hy => ?_⟩
      rw [List.mem_singleton] at hy
      subst hy
      exact hno x hx
    have hlast : (es.push ⟨key, z, clock⟩).toList[es.size]? = some ⟨key, z, clock⟩ := by simp
    have hf1 := fun w => find_yes K hkey hk1 hp1 hlast rfl w
    have hj1 : (es.push ⟨key, z, clock⟩)[es.size]? = some ⟨key, z, clock⟩ := by simp
    have hsame : (es.push ⟨key, z, clock⟩).modify es.size (fun e => { e with key := key }) = es.push ⟨key, z, clock⟩ := by rw [push_last]
    refine ⟨z, clock, es.push ⟨key, z, clock⟩, clock + 1, fun w hb => ?_, fun w hb => ?_, fun w hb => ?_, fun w hb => ?_, fun val => ⟨es.push ⟨key, val, clock⟩, clock + 1, fun w hb => ?_, fun w hb => ?_⟩⟩
    · simp [Instr.mapEntry, run_underlying ht, MapKept.run_getObj_map hb, K.check w false hkey, hf w, hz, MapKept.run_setObj_map _ hb, Result.andThen, setBlock]
    · have := hf1 w
      simp only [Array.toList_push] at this
      simp [Instr.mapEntry, run_underlying ht, MapKept.run_getObj_map hb, K.check w false hkey, this, K.stays w hkey, hsame, MapKept.run_setObj_map _ hb, Result.andThen, setBlock]
    · simp [Instr.lookup, run_underlying ht, MapKept.run_getObj_map hb, K.check w _ hkey, hf w, hz, Result.andThen]
    · have := hf1 w
      simp only [Array.toList_push] at this
      simp [Instr.lookup, run_underlying ht, MapKept.run_getObj_map hb, K.check w _ hkey, this, Result.andThen]
    · have hidx : (es.push ⟨key, z, clock⟩).findIdx? (fun e => ((e.born : Nat) : Int) == ((clock : Nat) : Int)) = some es.size := by
        rw [WideElems.findIdx_arr]
        exact WideElems.findIdx_born (l := (es.push ⟨key, z, clock⟩).toList) (j := es.size) (e0 := ⟨key, z, clock⟩) (by
          simp only [Array.toList_push, List.map_append, List.map_cons, List.map_nil]
          refine List.nodup_append.2 ⟨s2, by simp, fun a ha c hc e1 => ?_⟩
          simp only [List.mem_singleton] at hc
          obtain ⟨x, hx, rfl⟩ := List.mem_map.1 ha
          have := s1 x hx
          omega) (by simp)
      have hmod := push_last es ⟨key, z, clock⟩ (fun e => { e with val := val })
      simp [Instr.entryStore, MapKept.run_getObj_map hb, asInt, asIntOf, goInt, hidx, hmod, MapKept.run_setObj_map _ hb, Result.andThen, setBlock]
    · simp [Instr.mapUpdate, run_underlying ht, MapKept.run_getObj_map hb, K.check w false hkey, hf w, MapKept.run_setObj_map _ hb, Result.andThen, setBlock]
end
end Go.Proofs.Ytnhijmhambggbaa
/-
  A map of lines by its content: which keys are there, and what stands at each.
-/
namespace Go.Proofs.Ytnhijmhambggbaa
open Go.RowKit Go.Maps
open Go.ChangeMaps (setBlock)
open Go.WideElems (Fit rd rg pl rd_key)
set_option maxRecDepth 100000

theorem Try.zeroInt (w : World) : (zeroValue 3).run Try.prog w = .ok (.int .i64 0) w := by kernel_rfl
def ReadsAs (D : DataW Unit) (A : Key → Bool) (F : Key → Int) : Prop := ∀ k, k.wf → has D (kl k) = A k ∧ D.atKey (kl k) (.lit (.int .i64 0)) = .lit (.int .i64 (F k))
/-- Block b is a map of at most n lines: A says which are there, F what stands at each. -/
def LM (w : World) (b n : Nat) (A : Key → Bool) (F : Key → Int) : Prop := ∃ D : DataW Unit, w.ownsMap Try.prog 129 (plainElem (H := Unit) Try.prog 3) b n D ∧ ReadsAs D A F

theorem lm_heap {w w' : World} {b n : Nat} {A : Key → Bool} {F : Key → Int} (h : LM w b n A F) (e : w'.heap[b]? = w.heap[b]?) : LM w' b n A F := by
  obtain ⟨D, ⟨es, clock, hb, r⟩, hr⟩ := h
  exact ⟨D, ⟨es, clock, e.trans hb, r⟩, hr⟩
theorem lm_lt {w : World} {b n : Nat} {A : Key → Bool} {F : Key → Int} (h : LM w b n A F) : b < w.heap.size := by
  obtain ⟨D, hD, -⟩ := h
  exact hD.lt
theorem lm_below {w w' : World} {b n : Nat} {A : Key → Bool} {F : Key → Int} (h : LM w b n A F) (hb : Below w.heap.size w w') : LM w' b n A F := lm_heap h (hb.block b (lm_lt h))
theorem lm_grown {w w' : World} {b n : Nat} {A : Key → Bool} {F : Key → Int} {row : Option Nat} (h : LM w b n A F) (hg : w.grownBy w' row) (hr : row ≠ some b) : LM w' b n A F := lm_heap h (hg.block b (lm_lt h) (Ne.symm hr))
theorem lm_mono {w : World} {b n n' : Nat} {A : Key → Bool} {F : Key → Int} (h : LM w b n A F) (hn : n ≤ n') : LM w b n' A F := by
  obtain ⟨D, hD, hr⟩ := h
  exact ⟨D, hD.mono hn, hr⟩
theorem lm_congr {w : World} {b n : Nat} {A A' : Key → Bool} {F F' : Key → Int} (h : LM w b n A F) (hA : ∀ k, k.wf → A k = A' k) (hF : ∀ k, k.wf → F k = F' k) : LM w b n A' F' := by
  obtain ⟨D, hD, hr⟩ := h
  exact ⟨D, hD, fun k hk => by rw [← hA k hk, ← hF k hk]; exact hr k hk⟩
theorem lm_made (w : World) : LM (w.alloc (.map #[] 0)) w.heap.size 0 (fun _ => false) (fun _ => 0) :=
  ⟨.map [], World.ownsMap_made _ _ _ _, fun _ _ => ⟨rfl, rfl⟩⟩

def setK {α : Type} (f : Key → α) (k : Key) (v : α) : Key → α := fun z => if z = k then v else f z
theorem readsAs_put {D : DataW Unit} {A : Key → Bool} {F : Key → Int} (hD : IsMap D) (h : ReadsAs D A F) {k : Key} (hk : k.wf) (v : Int) : ReadsAs (D.put (kl k) (.lit (.int .i64 v))) (setK A k true) (setK F k v) := by
  intro z hz
  by_cases e : z = k
  · subst e
    simp only [setK, if_true]
    exact ⟨has_put_same hD (kl_key hz) _, atKey_put_same hD (kl_key hz) _ _⟩
  · have hne : kl z ≠ kl k := fun h => e (kl_inj hz hk h)
    simp only [setK, if_neg e]
    rw [has_put_other hne, atKey_put_other hne]
    exact h z hz
theorem readsAs_del {D : DataW Unit} {A : Key → Bool} {F : Key → Int} (h : ReadsAs D A F) {k : Key} (hk : k.wf) : ReadsAs (D.del (kl k)) (setK A k false) (setK F k 0) := by
  intro z hz
  by_cases e : z = k
  · subst e
    simp only [setK, if_true]
    exact ⟨has_del_same, atKey_del_same _⟩
  · have hne : kl z ≠ kl k := fun h => e (kl_inj hz hk h)
    simp only [setK, if_neg e]
    rw [has_del_other hne, atKey_del_other hne]
    exact h z hz
/-- Each key that is there is a line's. -/
theorem lm_key {w : World} {b n : Nat} {D : DataW Unit} (h : w.ownsMap Try.prog 129 (plainElem (H := Unit) Try.prog 3) b n D) {l : Lit} (hl : has D l = true) : ∃ k, k.wf ∧ l = kl k := by
  obtain ⟨es, clock, hb, F, hs, rfl⟩ := h
  obtain ⟨p, hp, hpk⟩ := List.any_eq_true.1 hl
  obtain ⟨x, hx, rfl⟩ := List.mem_map.1 (mem_sorted.1 hp)
  obtain ⟨y, hy⟩ := F.reads x hx
  have h1 := rd_key hy
  obtain ⟨k, hk, hw⟩ := key_inv h1
  refine ⟨k, hw, ?_⟩
  have h2 := WideAt.sameKey_eq hpk
  rw [WideElems.rg_of hy] at h2
  rw [← h2]
  rw [hk, kl_of hw] at h1
  exact (Option.some.inj h1).symm
theorem lm_size {w : World} {b n : Nat} {D : DataW Unit} {A : Key → Bool} {F : Key → Int} (h : w.ownsMap Try.prog 129 (plainElem (H := Unit) Try.prog 3) b n D) (hr : ReadsAs D A F) : (Maps.size D = 0 ↔ ∀ k, k.wf → A k = false) := by
  constructor
  · intro h0 k hk
    obtain ⟨es, rfl⟩ := h.isMap
    have : es = [] := List.eq_nil_of_length_eq_zero h0
    subst this
    rw [← (hr k hk).1]; rfl
  · intro hA
    obtain ⟨es, hes⟩ := h.isMap
    subst hes
    cases es with
    | nil => rfl
    | cons p r =>
      exfalso
      obtain ⟨es', e', _, hk⟩ := h.entries Try.keyLaw
      have hp : p ∈ es' := by cases e'; exact List.mem_cons_self
      have hhas : has (DataW.map (p :: r)) p.1 = true := by
        rw [has_eq, List.any_cons, WideAt.sameKey_self (hk p hp)]; rfl
      obtain ⟨k, hw, hkl⟩ := lm_key h hhas
      have := (hr k hw).1
      rw [← hkl, hhas, hA k hw] at this
      cases this

theorem lm_lookup {w : World} {b n : Nat} {A : Key → Bool} {F : Key → Int} (h : LM w b n A F) {k : Key} (hk : k.wf) : (Instr.lookup 96 (.map (some b)) (keyV k) false).run Try.prog w = .ok (.int .i64 (F k)) w := by
  obtain ⟨D, hD, hr⟩ := h
  obtain ⟨c, hrun, hat, -⟩ := hD.lookup_int Try.keyLaw Try.underlying96 Try.underlying3 (Try.zeroInt w) (kl_of hk)
  have := (hr k hk).2
  rw [hat] at this
  simp only [DataW.lit.injEq, Lit.int.injEq, true_and] at this
  rw [hrun, this]
theorem lm_store {w : World} {b n : Nat} {A : Key → Bool} {F : Key → Int} (h : LM w b n A F) (hn : n < maxLen) {k : Key} (hk : k.wf) {v : Int} (hv : (Lit.int .i64 v).wf = true) :
    ∃ w', (Instr.mapUpdate 96 (.map (some b)) (keyV k) (.int .i64 v)).run Try.prog w = .ok () w' ∧ LM w' b (n + 1) (setK A k true) (setK F k v) ∧ w.grownBy w' (some b) := by
  obtain ⟨D, hD, hr⟩ := h
  obtain ⟨w', h1, h2, h3⟩ := hD.update Try.keyLaw Try.underlying96 hn (kl_of hk) (plainElem_int Try.underlying3 hv)
  exact ⟨w', h1, ⟨_, h2, readsAs_put hD.isMap hr hk v⟩, h3⟩
theorem lm_wf {w : World} {b n : Nat} {A : Key → Bool} {F : Key → Int} (h : LM w b n A F) {k : Key} (hk : k.wf) : (Lit.int .i64 (F k)).wf = true := by
  obtain ⟨D, hD, hr⟩ := h
  obtain ⟨c, -, hat, hw⟩ := hD.lookup_int Try.keyLaw Try.underlying96 Try.underlying3 (Try.zeroInt w) (kl_of hk)
  have := (hr k hk).2
  rw [hat] at this
  simp only [DataW.lit.injEq, Lit.int.injEq, true_and] at this
  rw [← this]; exact hw

/-- 'm[k] += ..': the block before the entry is made, the block behind it, the entry's stamp. -/
structure Ent (b n : Nat) (k : Key) (A : Key → Bool) (F : Key → Int) (E0 E1 : Obj) (st : Nat) : Prop where
  entry : ∀ w : World, (w.heap[b]? = some E0 ∨ w.heap[b]? = some E1) → (Instr.mapEntry 96 (.map (some b)) (keyV k)).run Try.prog w = .ok (.tuple #[.int .i64 (F k), .int .i64 st]) (setBlock w b E1)
  look : ∀ w : World, (w.heap[b]? = some E0 ∨ w.heap[b]? = some E1) → (Instr.lookup 96 (.map (some b)) (keyV k) false).run Try.prog w = .ok (.int .i64 (F k)) w
  store : ∀ (w : World) (v : Int), (Lit.int .i64 v).wf = true → w.heap[b]? = some E1 → ∃ E', (Instr.entryStore 96 (.map (some b)) (.int .i64 st) (.int .i64 v)).run Try.prog w = .ok () (setBlock w b E') ∧ LM (setBlock w b E') b (n + 1) (setK A k true) (setK F k v)
theorem lm_ent {w0 : World} {b n : Nat} {A : Key → Bool} {F : Key → Int} (h : LM w0 b n A F) (hn : n < maxLen) {k : Key} (hk : k.wf) : ∃ E0 E1 st, w0.heap[b]? = some E0 ∧ Ent b n k A F E0 E1 st := by
  have hL := lm_lookup h hk
  have h0 := h
  obtain ⟨D, ⟨es, clock, hb, Ft, hs, hD⟩, hr⟩ := h0
  obtain ⟨v0, st, es1, clock1, e1, e2, l1, l2, hst⟩ := entry_all (b := b) Try.keyLaw Try.underlying96 Try.zeroInt Ft (kl_of hk)
  have hv0 : v0 = .int .i64 (F k) := by
    have := l1 w0 hb
    rw [hL] at this
    simp only [Result.ok.injEq, and_true] at this
    exact this.symm
  subst hv0
  refine ⟨_, .map es1 clock1, st, hb, fun w hw => hw.elim (e1 w) (e2 w), fun w hw => hw.elim (l1 w) (l2 w), fun w v hv hw => ?_⟩
  obtain ⟨es', clock', s1, s2⟩ := hst (.int .i64 v)
  refine ⟨_, s1 w hw, ?_⟩
  obtain ⟨w', u1, u2, -⟩ := lm_store h hn hk hv
  rw [s2 w0 hb] at u1
  simp only [Result.ok.injEq, true_and] at u1
  subst u1
  refine lm_heap u2 ?_
  rw [ChangeMaps.heap_setBlock_same hw, ChangeMaps.heap_setBlock_same hb]
theorem sb_same {w : World} {b : Nat} {o o' : Obj} (h : w.heap[b]? = some o) : (setBlock w b o').heap[b]? = some o' := by
  have := (Array.getElem?_eq_some_iff.1 h).1
  simp [setBlock, this]
theorem sb_other (w : World) {b i : Nat} (o' : Obj) (h : i ≠ b) : (setBlock w b o').heap[i]? = w.heap[i]? := by
  simp [setBlock, Array.getElem?_setIfInBounds_ne (Ne.symm h)]
theorem sb_grown (w : World) (b : Nat) (o' : Obj) : w.grownBy (setBlock w b o') (some b) :=
  ⟨rfl, rfl, rfl, by simp [setBlock], fun i _ hi => sb_other w o' fun e => hi (by rw [e])⟩

theorem lm_drop {w : World} {b n : Nat} {A : Key → Bool} {F : Key → Int} (h : LM w b n A F) {k : Key} (hk : k.wf) (ty : TypeId) :
    ∃ w', (Builtin.delete_ #[96, 129] ty #[.map (some b), keyV k]).run Try.prog w = .ok (.tuple #[]) w' ∧ LM w' b n (setK A k false) (setK F k 0) ∧ w.grownBy w' (some b) ∧ w'.heap.size = w.heap.size := by
  obtain ⟨D, hD, hr⟩ := h
  obtain ⟨w', h1, h2, h3⟩ := hD.drop Try.keyLaw Try.underlying96 (kl_of hk) ty
  refine ⟨w', h1, ⟨_, h2, readsAs_del hr hk⟩, h3.grown, ?_⟩
  obtain ⟨es, c, es', c', -, rfl⟩ := h3
  simp [setBlock]
theorem wpList_deleteLM (w : World) {ops : Array Oper} {rest : List Oper} {o : Oper} {a : Act} {Q : Exit → Act → World → Prop} {b n : Nat} {A : Key → Bool} {F : Key → Int} {k : Key} (hg : o.guard = none) (m x : Operand)
    (hop : o.op = Op.call { callee := Callee.builtin Builtin.delete, args := #[m, x], argTypes := #[96, 129] }) (hm : a.eval m = .map (some b)) (hx : a.eval x = keyV k) (h : LM w b n A F) (hk : k.wf)
    (hK : ∀ w', LM w' b n (setK A k false) (setK F k 0) → w.grownBy w' (some b) → w'.heap.size = w.heap.size → wpList Try.prog ops Q rest (a.put o.dst (.tuple #[])) w') : wpList Try.prog ops Q (o :: rest) a w := by
  refine wpList_plain hg fun K' hK' => ?_
  obtain ⟨w', hrun, r1, r2, r3⟩ := lm_drop h hk o.type
  unfold Oper.wp
  simp [execOp, hop, resolve, invoke, builtin, hm, hx, hrun, Result.andThen]
  exact hK' _ _ (hK w' r1 r2 r3)
theorem wpList_lookupLM (w : World) {ops : Array Oper} {rest : List Oper} {o : Oper} {a : Act} {Q : Exit → Act → World → Prop} {b n : Nat} {A : Key → Bool} {F : Key → Int} {k : Key} (hg : o.guard = none) (m x : Operand)
    (hop : o.op = Op.lookup 96 m x false) (hm : a.eval m = .map (some b)) (hx : a.eval x = keyV k) (h : LM w b n A F) (hk : k.wf)
    (hK : wpList Try.prog ops Q rest (a.put o.dst (.int .i64 (F k))) w) : wpList Try.prog ops Q (o :: rest) a w := by
  refine wpList_plain hg fun K' hK' => ?_
  unfold Oper.wp
  simp [execOp, hop, hm, hx, lm_lookup h hk, Result.andThen]
  exact hK' _ _ hK
theorem wpList_lenLM (w : World) {ops : Array Oper} {rest : List Oper} {o : Oper} {a : Act} {Q : Exit → Act → World → Prop} {b n : Nat} {A : Key → Bool} {F : Key → Int} (hg : o.guard = none) (m : Operand)
    (hop : o.op = Op.call { callee := Callee.builtin Builtin.len, args := #[m], argTypes := #[96] }) (hm : a.eval m = .map (some b)) (h : LM w b n A F)
    (hK : ∀ s : Nat, s ≤ n → (s = 0 ↔ ∀ k : Key, k.wf → A k = false) → wpList Try.prog ops Q rest (a.put o.dst (.int .i64 s)) w) : wpList Try.prog ops Q (o :: rest) a w := by
  refine wpList_plain hg fun K' hK' => ?_
  obtain ⟨D, hD, hr⟩ := h
  have hrun := hD.len Try.underlying96 o.type
  unfold Oper.wp
  simp [execOp, hop, resolve, invoke, builtin, hm, hrun, Result.andThen]
  exact hK' _ _ (hK _ hD.size_le (lm_size hD hr))

/-- 'for k, v := range m' under way: left says which lines are still to come. -/
def LR (w : World) (b r n : Nat) (A : Key → Bool) (F : Key → Int) (left : Key → Bool) (cnt : Nat) : Prop :=
  ∃ (D : DataW Unit) (lf : Lit → Bool), w.ranges Try.prog 129 (plainElem (H := Unit) Try.prog 3) b r n D lf cnt ∧ ReadsAs D A F ∧ ∀ k, k.wf → lf (kl k) = left k
theorem lr_owns {w : World} {b r n : Nat} {A : Key → Bool} {F : Key → Int} {left : Key → Bool} {cnt : Nat} (h : LR w b r n A F left cnt) : LM w b n A F := by
  obtain ⟨D, lf, h1, h2, -⟩ := h
  exact ⟨D, h1.owns, h2⟩
theorem lr_left {w : World} {b r n : Nat} {A : Key → Bool} {F : Key → Int} {left : Key → Bool} {cnt : Nat} (h : LR w b r n A F left cnt) : w.rangeLeft b r = cnt := by
  obtain ⟨D, lf, h1, -⟩ := h
  exact h1.left_eq
theorem lr_lt {w : World} {b r n : Nat} {A : Key → Bool} {F : Key → Int} {left : Key → Bool} {cnt : Nat} (h : LR w b r n A F left cnt) : r < w.heap.size := by
  obtain ⟨D, lf, h1, -⟩ := h
  exact h1.lt
theorem lr_grown {w w' : World} {b r n : Nat} {A : Key → Bool} {F : Key → Int} {left : Key → Bool} {cnt : Nat} {row : Option Nat} (h : LR w b r n A F left cnt) (hg : w.grownBy w' row) (hb : row ≠ some b) (hr : row ≠ some r) : LR w' b r n A F left cnt := by
  obtain ⟨D, lf, h1, h2, h3⟩ := h
  exact ⟨D, lf, h1.kept hg (Ne.symm hb) (Ne.symm hr), h2, h3⟩
theorem lr_below {w w' : World} {b r n : Nat} {A : Key → Bool} {F : Key → Int} {left : Key → Bool} {cnt : Nat} (h : LR w b r n A F left cnt) (hb : Below w.heap.size w w') : LR w' b r n A F left cnt :=
  lr_grown h (grown_of_below hb none) (by simp) (by simp)
theorem wpList_rangeLM (w : World) {ops : Array Oper} {rest : List Oper} {o : Oper} {a : Act} {Q : Exit → Act → World → Prop} {b n : Nat} {A : Key → Bool} {F : Key → Int} (hg : o.guard = none) (m : Operand) (hop : o.op = Op.range 96 m) (hm : a.eval m = .map (some b)) (h : LM w b n A F)
    (hK : ∀ w' cnt, LR w' b w.heap.size n A F A cnt → Below w.heap.size w w' → w'.heap.size = w.heap.size + 1 → wpList Try.prog ops Q rest (a.put o.dst (.pointer (some ⟨w.heap.size, 0, none⟩))) w') : wpList Try.prog ops Q (o :: rest) a w := by
  obtain ⟨D, hD, hr⟩ := h
  refine wpList_range_own w hg m _ hop _ _ Try.keyLaw Try.underlying96 _ b n D hm hD fun w' h1 h2 h3 => hK w' _ ⟨D, _, h1, hr, fun k hk => (hr k hk).1⟩ (grown_below h2 (fun k hk => by cases hk) (Nat.le_refl _)) h3
theorem wpList_nextLR (w : World) {ops : Array Oper} {rest : List Oper} {o : Oper} {a : Act} {Q : Exit → Act → World → Prop} {b r n : Nat} {A : Key → Bool} {F : Key → Int} {left : Key → Bool} {cnt : Nat} (hg : o.guard = none) (it : Operand) (hop : o.op = Op.next it false)
    (hit : a.eval it = .pointer (some ⟨r, 0, none⟩)) (h : LR w b r n A F left cnt)
    (hDone : (∀ k : Key, k.wf → left k = false) → wpList Try.prog ops Q rest (a.put o.dst (.tuple #[.bool false])) w)
    (hMore : ∀ (k : Key) (w' : World) (cnt' : Nat), k.wf → left k = true → LR w' b r n A F (fun z => left z && !decide (z = k)) cnt' → cnt' < cnt → w.grownBy w' (some r) → w'.heap.size = w.heap.size →
      (Instr.entry (.pointer (some ⟨r, 0, none⟩))).run Try.prog w' = .ok (.tuple #[keyV k, .int .i64 (F k)]) w' → wpList Try.prog ops Q rest (a.put o.dst (.tuple #[.bool true, keyV k, .int .i64 (F k)])) w') : wpList Try.prog ops Q (o :: rest) a w := by
  obtain ⟨D, lf, h1, h2, h3⟩ := h
  refine wpList_next_ranges w hg it hop _ Try.keyLaw _ keyV (Value.int .i64) (fun key l hk => ?_) (fun v y hv => ?_) b r n D lf cnt hit h1 (fun _ hl => hDone fun k hk => by rw [← h3 k hk]; exact hl _) fun x c l y w' cnt' q1 q2 q3 q4 q5 q6 q7 q8 q9 => ?_
  · obtain ⟨k, hk, -⟩ := key_inv hk
    exact ⟨k, hk⟩
  · obtain ⟨c, hc, -⟩ := plainElem_int_inv Try.underlying3 hv
    exact ⟨c, hc⟩
  · obtain ⟨k, hk, hw⟩ := key_inv q1
    obtain rfl := keyV_inj hk
    have hl : l = kl x := by rw [kl_of hw] at q1; exact (Option.some.inj q1).symm
    subst hl
    obtain ⟨c', hc, hy, -⟩ := plainElem_int_inv Try.underlying3 q3
    cases hc
    have hF : F x = c := by
      have e1 := (h2 x hw).2
      rw [q4, hy] at e1
      simp only [DataW.lit.injEq, Lit.int.injEq, true_and] at e1
      exact e1.symm
    subst hF
    refine hMore x w' cnt' hw (by rw [← h3 x hw]; exact q2) ⟨D, _, q5, h2, fun z hz => ?_⟩ q6 q7 q8 q9
    simp only [h3 z hz]
    congr 2
    by_cases e : z = x
    · subst e; rw [decide_eq_true rfl, WideAt.sameKey_self (kl_key hz)]
    · rw [decide_eq_false e, sameKey_ne fun h => e (kl_inj hz hw h)]
end Go.Proofs.Ytnhijmhambggbaa
