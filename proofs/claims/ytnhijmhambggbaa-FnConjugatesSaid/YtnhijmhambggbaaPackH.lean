/-
  Texts of this claim, one behind the other: Eq, Same, Alike, RowFn, Seq, ShSort, SortF, IsStair, ColS, Grown, SwV.
-/
import Derived.Test.YtnhijmhambggbaaPackB
import Derived.Test.YtnhijmhambggbaaPackG
import Derived.Test.YtnhijmhambggbaaPackD
import Derived.Laws.IdiomCopy
import Derived.Lib.SliceRun
import Derived.Shelf.Abstract
import Derived.Deep.LoopGhost
import Derived.RangeFuncBox
import Derived.RangeFuncLeaves
import Derived.OwnWalkIn
import Derived.TacticsInMore
import Derived.LoopNIn
import Derived.LoopIn
import Derived.Maps.AppendAt
import Derived.Shelf.SlSortCmp.NoneTotal
import Derived.Test.YtnhijmhambggbaaProg
import Derived.Test.YtnhijmhambggbaaPackF
import Derived.Test.YtnhijmhambggbaaPackA
import Derived.Shelf.SlSortCmp.QuietGrown
import Derived.Test.YtnhijmhambggbaaPackC
/-
  Lists of integers held against one another: slices.Equal.
-/
namespace Go.Proofs.Ytnhijmhambggbaa
open Go.RowKit

theorem sameRow_no {r s : List Int} (h : r.length ≠ s.length) : (r == s) = false := by
  rw [beq_eq_false_iff_ne]; intro e; exact h (by rw [e])
theorem sameRow_no2 {r s : List Int} (k : Nat) (hr : k < r.length) (hs : k < s.length) (h : r[k] ≠ s[k]) : (r == s) = false := by
  rw [beq_eq_false_iff_ne]; intro e; subst e; exact h rfl
theorem sameRow_yes {r s : List Int} (h : r.length = s.length) (h2 : ∀ k, (hr : k < r.length) → (hs : k < s.length) → r[k] = s[k]) : (r == s) = true := by
  rw [beq_iff_eq]; exact List.ext_getElem h h2
theorem sameMat_no {r s : List (List Int)} (h : r.length ≠ s.length) : (r == s) = false := by
  rw [beq_eq_false_iff_ne]; intro e; exact h (by rw [e])
theorem sameMat_no2 {r s : List (List Int)} (k : Nat) (hr : k < r.length) (hs : k < s.length) (h : (r[k] == s[k]) = false) : (r == s) = false := by
  rw [beq_eq_false_iff_ne] at h ⊢; intro e; subst e; exact h rfl
theorem sameMat_yes {r s : List (List Int)} (h : r.length = s.length) (h2 : ∀ k, (hr : k < r.length) → (hs : k < s.length) → (r[k] == s[k]) = true) : (r == s) = true := by
  rw [beq_iff_eq]; exact List.ext_getElem h fun k h1 h2' => by simpa using h2 k h1 h2'

set_option maxHeartbeats 1000000 in
theorem l02Same_any (va vb : Value) (r s : List Int) (w : World) (ha : InRow w va r) (hb : InRow w vb s) :
    Calls Try.prog 119 #[va, vb] w fun e w' => e = .returned (.bool (r == s)) ∧ w = w' := by
  obtain ⟨a, ca, rfl, hma, hpa⟩ := ha
  obtain ⟨b, cb, rfl, hmb, hpb⟩ := hb
  unfold maxLen at hma hmb
  by_cases hlen : r.length = s.length
  · by_cases h0 : r.length = 0
    · have hr : r = [] := List.eq_nil_of_length_eq_zero h0
      have hs : s = [] := List.eq_nil_of_length_eq_zero (by omega)
      subst hr; subst hs
      clear hpa hpb hma hmb hlen h0
      go_enter Try.func119, Try.ntmps119
      go_wp2
      go_loop [14] (fun i => i = .int .i64 0) (fun _ => 0)
      case atStart => rfl
      case round =>
        obtain rfl := hrel
        go_wp2
        go_ret
        exact ⟨rfl, rfl⟩
    · obtain ⟨ga, oa, rfl, -, hca⟩ := hpa.resolve_left h0
      obtain ⟨gb, ob, rfl, -, hcb⟩ := hpb.resolve_left (by omega)
      have HA := hide hca; have HB := hide hcb; have HL := hide hlen
      obtain ⟨n, hn⟩ : ∃ n, n = r.length := ⟨_, rfl⟩
      have HN := hide hn
      have HM : Hid (s.length = n) := hide (by omega)
      rw [← hlen, ← hn]
      rw [← hn] at hma
      clear hpa hpb hca hcb h0 hmb hlen hn
      go_enter Try.func119, Try.ntmps119
      go_wp2
      go_loop [14] (fun i => ∃ k : Nat, k ≤ n ∧ i = .int .i64 k ∧ ∀ t, (h1 : t < r.length) → (h2 : t < s.length) → t < k → r[t] = s[t]) (fun i => n - (intOf i).toNat)
      case atStart => exact ⟨0, Nat.zero_le _, rfl, fun t _ _ h => absurd h (Nat.not_lt_zero _)⟩
      case round =>
        obtain ⟨k, hk, rfl, hall⟩ := hrel
        have HH := hide hall
        clear hall
        by_cases hlt : k < n
        · have hkr : k < r.length := by rw [← HN.out]; exact hlt
          have hks : k < s.length := by rw [HM.out]; exact hlt
          have hxa := HA.out k hkr
          have hxb := HB.out k hks
          have HNO := hide (fun h => sameRow_no2 k hkr hks h)
          have HST : Hid (r[k] = s[k] → ∀ t, (h1 : t < r.length) → (h2 : t < s.length) → t < k + 1 → r[t] = s[t]) := hide fun h t h1 h2 ht => by
            by_cases e : t = k
            · subst e; exact h
            · exact HH.out t h1 h2 (by omega)
          obtain ⟨x, hx⟩ : ∃ x, x = r[k] := ⟨_, rfl⟩
          obtain ⟨y, hy⟩ : ∃ y, y = s[k] := ⟨_, rfl⟩
          rw [← hx, ← hy] at HNO HST
          rw [← hx] at hxa
          rw [← hy] at hxb
          clear hx hy
          by_cases e : x = y
          · subst e
            have HST := hide (HST.out rfl)
            go_wp2
            go_round
            case rel => exact ⟨k + 1, by omega, by go_num, HST.out⟩
            case measure => simp [intOf]; omega
          · have HF := hide (HNO.out e)
            have hne : (x == y) = false := by simpa using e
            have hne2 : (x != y) = true := by simpa using e
            clear e
            go_wp2
            go_ret
            exact ⟨ret_bool HF.out.symm, rfl⟩
        · have HY := hide (sameRow_yes HL.out fun t h1 h2 => HH.out t h1 h2 (by have := HN.out; omega))
          go_wp2
          go_ret
          exact ⟨ret_bool HY.out.symm, rfl⟩
  · have HF := hide (sameRow_no hlen)
    obtain ⟨n, hn⟩ : ∃ n, n = r.length := ⟨_, rfl⟩
    obtain ⟨k, hk⟩ : ∃ k, k = s.length := ⟨_, rfl⟩
    rw [← hn, ← hk] at hlen ⊢
    rw [← hn] at hma
    rw [← hk] at hmb
    have hne : ((n : Int) == (k : Int)) = false := by simp; omega
    have hne2 : ((n : Int) != (k : Int)) = true := by simp; omega
    clear hpa hpb hn hk hlen
    go_enter Try.func119, Try.ntmps119
    go_wp2
    go_ret
    exact ⟨ret_bool HF.out.symm, rfl⟩

theorem equal_any (va vb : Value) (r s : List Int) (w : World) (ha : InRow w va r) (hb : InRow w vb s) :
    Calls Try.prog 68 #[va, vb] w fun e w' => e = .returned (.bool (r == s)) ∧ Below w.heap.size w w' := by
  obtain ⟨a, ca, rfl, hma, hpa⟩ := ha
  obtain ⟨b, cb, rfl, hmb, hpb⟩ := hb
  unfold maxLen at hma hmb
  by_cases hlen : r.length = s.length
  · by_cases h0 : r.length = 0
    · have hr : r = [] := List.eq_nil_of_length_eq_zero h0
      have hs : s = [] := List.eq_nil_of_length_eq_zero (by omega)
      subst hr; subst hs
      refine (Try.slices_Equal_int_empty a b ca 0 cb w (by omega)).mono ?_
      rintro e w' ⟨rfl, rfl⟩
      exact ⟨rfl, Below.refl _ _⟩
    · obtain ⟨ga, oa, rfl, -, hca⟩ := hpa.resolve_left h0
      obtain ⟨gb, ob, rfl, -, hcb⟩ := hpb.resolve_left (by omega)
      refine (Try.slices_Equal_int ga oa r.length ca gb ob s.length cb r s w (Nat.le_refl _) (Nat.le_refl _) hma hmb (fun j hj => ?_) (fun j hj => ?_)).mono ?_
      · rw [hca j hj, List.getD_eq_getElem?_getD, List.getElem?_eq_getElem hj]; rfl
      · rw [hcb j hj, List.getD_eq_getElem?_getD, List.getElem?_eq_getElem hj]; rfl
      rintro e w' ⟨rfl, q, rfl⟩
      refine ⟨ret_bool (by rw [List.take_length, List.take_length]), below_draws (Below.refl _ _) q⟩
  · refine (Try.slices_Equal_int_lens a b r.length ca s.length cb w hlen).mono ?_
    rintro e w' ⟨rfl, rfl⟩
    exact ⟨ret_bool (sameRow_no hlen).symm, Below.refl _ _⟩
end Go.Proofs.Ytnhijmhambggbaa
/-
  SameImage, of the model and of the program, and the exact law, walked.
-/
namespace Go.Proofs.Ytnhijmhambggbaa
open Go.RowKit

set_option maxHeartbeats 1000000 in
theorem specSameImage_any (va vb : Value) (m l : List (List Int)) (w : World) (ha : InMat w va m) (hb : InMat w vb l) :
    Calls Try.prog 122 #[va, vb] w fun e w' => e = .returned (.bool (m == l)) ∧ Below w.heap.size w w' := by
  obtain ⟨a, ca, rfl, hma, hpa⟩ := ha
  obtain ⟨b, cb, rfl, hmb, hpb⟩ := hb
  unfold maxLen at hma hmb
  by_cases hlen : m.length = l.length
  · by_cases h0 : m.length = 0
    · have hr : m = [] := List.eq_nil_of_length_eq_zero h0
      have hs : l = [] := List.eq_nil_of_length_eq_zero (by omega)
      subst hr; subst hs
      clear hpa hpb hma hmb hlen h0
      go_enter Try.func122, Try.ntmps122
      go_wp2
      go_loop [14] (fun i => i = .int .i64 0) (fun _ => 0)
      case atStart => rfl
      case round =>
        obtain rfl := hrel
        go_wp2
        go_ret
        exact ⟨rfl, Below.refl _ _⟩
    · obtain ⟨ga, oa, rfl, hga, hca⟩ := hpa.resolve_left h0
      obtain ⟨gb, ob, rfl, hgb, hcb⟩ := hpb.resolve_left (by omega)
      have HA := hide hca; have HB := hide hcb; have HL := hide hlen
      obtain ⟨n, hn⟩ : ∃ n, n = m.length := ⟨_, rfl⟩
      have HN := hide hn
      have HM : Hid (l.length = n) := hide (by omega)
      rw [← hlen, ← hn]
      rw [← hn] at hma
      clear hpa hpb hca hcb h0 hmb hlen hn
      go_enter Try.func122, Try.ntmps122
      go_wp2
      go_loopw [14] (fun i w' => ∃ k : Nat, k ≤ n ∧ i = .int .i64 k ∧ (∀ t, (h1 : t < m.length) → (h2 : t < l.length) → t < k → (m[t] == l[t]) = true) ∧ Below w.heap.size w w') (fun i _ => n - (intOf i).toNat)
      case atStart => exact ⟨0, Nat.zero_le _, rfl, fun t _ _ h => absurd h (Nat.not_lt_zero _), Below.refl _ _⟩
      case round =>
        obtain ⟨k, hk, rfl, hall, hbb⟩ := hrel
        have HH := hide hall; have HBB := hide hbb
        clear hall hbb
        by_cases hlt : k < n
        · have hkr : k < m.length := by rw [← HN.out]; exact hlt
          have hks : k < l.length := by rw [HM.out]; exact hlt
          obtain ⟨ua, hxa, hra⟩ := HA.out k hkr
          obtain ⟨ub, hxb, hrb⟩ := HB.out k hks
          have hxa := below_cell HBB.out hga hxa
          have hxb := below_cell HBB.out hgb hxb
          have HRA := hide (inRow_below hra HBB.out)
          have HRB := hide (inRow_below hrb HBB.out)
          have HNO := hide (fun h => sameMat_no2 k hkr hks h)
          have HST : Hid ((m[k] == l[k]) = true → ∀ t, (h1 : t < m.length) → (h2 : t < l.length) → t < k + 1 → (m[t] == l[t]) = true) := hide fun h t h1 h2 ht => by
            by_cases e : t = k
            · subst e; exact h
            · exact HH.out t h1 h2 (by omega)
          clear hra hrb
          cases e : (m[k] == l[k]) with
          | true =>
            have HE := hide e
            have HST := hide (HST.out e)
            clear e
            go_wp2_with (go_at_call 119; refine (l02Same_any _ _ _ _ _ HRA.out HRB.out).mono ?_; rw [HE.out]; rintro e w9 ⟨rfl, rfl⟩)
            go_roundw
            case rel => exact ⟨k + 1, by omega, by go_num, HST.out, HBB.out⟩
            case measure => simp [intOf]; omega
          | false =>
            have HE := hide e
            have HF := hide (HNO.out e)
            clear e
            go_wp2_with (go_at_call 119; refine (l02Same_any _ _ _ _ _ HRA.out HRB.out).mono ?_; rw [HE.out]; rintro e w9 ⟨rfl, rfl⟩)
            go_ret
            exact ⟨ret_bool HF.out.symm, HBB.out⟩
        · have HY := hide (sameMat_yes HL.out fun t h1 h2 => HH.out t h1 h2 (by have := HN.out; omega))
          go_wp2
          go_ret
          exact ⟨ret_bool HY.out.symm, HBB.out⟩
  · have HF := hide (sameMat_no hlen)
    obtain ⟨n, hn⟩ : ∃ n, n = m.length := ⟨_, rfl⟩
    obtain ⟨k, hk⟩ : ∃ k, k = l.length := ⟨_, rfl⟩
    rw [← hn, ← hk] at hlen ⊢
    rw [← hn] at hma
    rw [← hk] at hmb
    have hne : ((n : Int) == (k : Int)) = false := by simp; omega
    have hne2 : ((n : Int) != (k : Int)) = true := by simp; omega
    clear hpa hpb hn hk hlen
    go_enter Try.func122, Try.ntmps122
    go_wp2
    go_ret
    exact ⟨ret_bool HF.out.symm, Below.refl _ _⟩

end Go.Proofs.Ytnhijmhambggbaa
/-
  The helpers of the laws that are no exact ones: same, alike.
-/
namespace Go.Proofs.Ytnhijmhambggbaa
open Go.RowKit
set_option maxHeartbeats 1000000 in
theorem same_any (va vb : Value) (r s : List Int) (w : World) (ha : InRow w va r) (hb : InRow w vb s) :
    Calls Try.prog 17 #[va, vb] w fun e w' => e = .returned (.bool (r == s)) ∧ w = w' := by
  obtain ⟨a, ca, rfl, hma, hpa⟩ := ha
  obtain ⟨b, cb, rfl, hmb, hpb⟩ := hb
  unfold maxLen at hma hmb
  by_cases hlen : r.length = s.length
  · by_cases h0 : r.length = 0
    · have hr : r = [] := List.eq_nil_of_length_eq_zero h0
      have hs : s = [] := List.eq_nil_of_length_eq_zero (by omega)
      subst hr; subst hs
      clear hpa hpb hma hmb hlen h0
      go_enter Try.func17, Try.ntmps17
      go_wp2
      go_loop [14] (fun i => i = .int .i64 0) (fun _ => 0)
      case atStart => rfl
      case round =>
        obtain rfl := hrel
        go_wp2
        go_ret
        exact ⟨rfl, rfl⟩
    · obtain ⟨ga, oa, rfl, -, hca⟩ := hpa.resolve_left h0
      obtain ⟨gb, ob, rfl, -, hcb⟩ := hpb.resolve_left (by omega)
      have HA := hide hca; have HB := hide hcb; have HL := hide hlen
      obtain ⟨n, hn⟩ : ∃ n, n = r.length := ⟨_, rfl⟩
      have HN := hide hn
      have HM : Hid (s.length = n) := hide (by omega)
      rw [← hlen, ← hn]
      rw [← hn] at hma
      clear hpa hpb hca hcb h0 hmb hlen hn
      go_enter Try.func17, Try.ntmps17
      go_wp2
      go_loop [14] (fun i => ∃ k : Nat, k ≤ n ∧ i = .int .i64 k ∧ ∀ t, (h1 : t < r.length) → (h2 : t < s.length) → t < k → r[t] = s[t]) (fun i => n - (intOf i).toNat)
      case atStart => exact ⟨0, Nat.zero_le _, rfl, fun t _ _ h => absurd h (Nat.not_lt_zero _)⟩
      case round =>
        obtain ⟨k, hk, rfl, hall⟩ := hrel
        have HH := hide hall
        clear hall
        by_cases hlt : k < n
        · have hkr : k < r.length := by rw [← HN.out]; exact hlt
          have hks : k < s.length := by rw [HM.out]; exact hlt
          have hxa := HA.out k hkr
          have hxb := HB.out k hks
          have HNO := hide (fun h => sameRow_no2 k hkr hks h)
          have HST : Hid (r[k] = s[k] → ∀ t, (h1 : t < r.length) → (h2 : t < s.length) → t < k + 1 → r[t] = s[t]) := hide fun h t h1 h2 ht => by
            by_cases e : t = k
            · subst e; exact h
            · exact HH.out t h1 h2 (by omega)
          obtain ⟨x, hx⟩ : ∃ x, x = r[k] := ⟨_, rfl⟩
          obtain ⟨y, hy⟩ : ∃ y, y = s[k] := ⟨_, rfl⟩
          rw [← hx, ← hy] at HNO HST
          rw [← hx] at hxa
          rw [← hy] at hxb
          clear hx hy
          by_cases e : x = y
          · subst e
            have HST := hide (HST.out rfl)
            go_wp2
            go_round
            case rel => exact ⟨k + 1, by omega, by go_num, HST.out⟩
            case measure => simp [intOf]; omega
          · have HF := hide (HNO.out e)
            have hne : (x == y) = false := by simpa using e
            have hne2 : (x != y) = true := by simpa using e
            clear e
            go_wp2
            go_ret
            exact ⟨ret_bool HF.out.symm, rfl⟩
        · have HY := hide (sameRow_yes HL.out fun t h1 h2 => HH.out t h1 h2 (by have := HN.out; omega))
          go_wp2
          go_ret
          exact ⟨ret_bool HY.out.symm, rfl⟩
  · have HF := hide (sameRow_no hlen)
    obtain ⟨n, hn⟩ : ∃ n, n = r.length := ⟨_, rfl⟩
    obtain ⟨k, hk⟩ : ∃ k, k = s.length := ⟨_, rfl⟩
    rw [← hn, ← hk] at hlen ⊢
    rw [← hn] at hma
    rw [← hk] at hmb
    have hne : ((n : Int) == (k : Int)) = false := by simp; omega
    have hne2 : ((n : Int) != (k : Int)) = true := by simp; omega
    clear hpa hpb hn hk hlen
    go_enter Try.func17, Try.ntmps17
    go_wp2
    go_ret
    exact ⟨ret_bool HF.out.symm, rfl⟩


set_option maxHeartbeats 1000000 in
theorem alike_any (va vb : Value) (m l : List (List Int)) (w : World) (ha : InMat w va m) (hb : InMat w vb l) :
    Calls Try.prog 29 #[va, vb] w fun e w' => e = .returned (.bool (m == l)) ∧ Below w.heap.size w w' := by
  obtain ⟨a, ca, rfl, hma, hpa⟩ := ha
  obtain ⟨b, cb, rfl, hmb, hpb⟩ := hb
  unfold maxLen at hma hmb
  by_cases hlen : m.length = l.length
  · by_cases h0 : m.length = 0
    · have hr : m = [] := List.eq_nil_of_length_eq_zero h0
      have hs : l = [] := List.eq_nil_of_length_eq_zero (by omega)
      subst hr; subst hs
      clear hpa hpb hma hmb hlen h0
      go_enter Try.func29, Try.ntmps29
      go_wp2
      go_loop [14] (fun i => i = .int .i64 0) (fun _ => 0)
      case atStart => rfl
      case round =>
        obtain rfl := hrel
        go_wp2
        go_ret
        exact ⟨rfl, Below.refl _ _⟩
    · obtain ⟨ga, oa, rfl, hga, hca⟩ := hpa.resolve_left h0
      obtain ⟨gb, ob, rfl, hgb, hcb⟩ := hpb.resolve_left (by omega)
      have HA := hide hca; have HB := hide hcb; have HL := hide hlen
      obtain ⟨n, hn⟩ : ∃ n, n = m.length := ⟨_, rfl⟩
      have HN := hide hn
      have HM : Hid (l.length = n) := hide (by omega)
      rw [← hlen, ← hn]
      rw [← hn] at hma
      clear hpa hpb hca hcb h0 hmb hlen hn
      go_enter Try.func29, Try.ntmps29
      go_wp2
      go_loopw [14] (fun i w' => ∃ k : Nat, k ≤ n ∧ i = .int .i64 k ∧ (∀ t, (h1 : t < m.length) → (h2 : t < l.length) → t < k → (m[t] == l[t]) = true) ∧ Below w.heap.size w w') (fun i _ => n - (intOf i).toNat)
      case atStart => exact ⟨0, Nat.zero_le _, rfl, fun t _ _ h => absurd h (Nat.not_lt_zero _), Below.refl _ _⟩
      case round =>
        obtain ⟨k, hk, rfl, hall, hbb⟩ := hrel
        have HH := hide hall; have HBB := hide hbb
        clear hall hbb
        by_cases hlt : k < n
        · have hkr : k < m.length := by rw [← HN.out]; exact hlt
          have hks : k < l.length := by rw [HM.out]; exact hlt
          obtain ⟨ua, hxa, hra⟩ := HA.out k hkr
          obtain ⟨ub, hxb, hrb⟩ := HB.out k hks
          have hxa := below_cell HBB.out hga hxa
          have hxb := below_cell HBB.out hgb hxb
          have HRA := hide (inRow_below hra HBB.out)
          have HRB := hide (inRow_below hrb HBB.out)
          have HNO := hide (fun h => sameMat_no2 k hkr hks h)
          have HST : Hid ((m[k] == l[k]) = true → ∀ t, (h1 : t < m.length) → (h2 : t < l.length) → t < k + 1 → (m[t] == l[t]) = true) := hide fun h t h1 h2 ht => by
            by_cases e : t = k
            · subst e; exact h
            · exact HH.out t h1 h2 (by omega)
          clear hra hrb
          cases e : (m[k] == l[k]) with
          | true =>
            have HE := hide e
            have HST := hide (HST.out e)
            clear e
            go_wp2_with (go_at_call 17; refine (same_any _ _ _ _ _ HRA.out HRB.out).mono ?_; rw [HE.out]; rintro e w9 ⟨rfl, rfl⟩)
            go_roundw
            case rel => exact ⟨k + 1, by omega, by go_num, HST.out, HBB.out⟩
            case measure => simp [intOf]; omega
          | false =>
            have HE := hide e
            have HF := hide (HNO.out e)
            clear e
            go_wp2_with (go_at_call 17; refine (same_any _ _ _ _ _ HRA.out HRB.out).mono ?_; rw [HE.out]; rintro e w9 ⟨rfl, rfl⟩)
            go_ret
            exact ⟨ret_bool HF.out.symm, HBB.out⟩
        · have HY := hide (sameMat_yes HL.out fun t h1 h2 => HH.out t h1 h2 (by have := HN.out; omega))
          go_wp2
          go_ret
          exact ⟨ret_bool HY.out.symm, HBB.out⟩
  · have HF := hide (sameMat_no hlen)
    obtain ⟨n, hn⟩ : ∃ n, n = m.length := ⟨_, rfl⟩
    obtain ⟨k, hk⟩ : ∃ k, k = l.length := ⟨_, rfl⟩
    rw [← hn, ← hk] at hlen ⊢
    rw [← hn] at hma
    rw [← hk] at hmb
    have hne : ((n : Int) == (k : Int)) = false := by simp; omega
    have hne2 : ((n : Int) != (k : Int)) = true := by simp; omega
    clear hpa hpb hn hk hlen
    go_enter Try.func29, Try.ntmps29
    go_wp2
    go_ret
    exact ⟨ret_bool HF.out.symm, Below.refl _ _⟩

theorem alike_yes (va vb : Value) (m : List (List Int)) (w : World) (ha : InMat w va m) (hb : InMat w vb m) :
    Calls Try.prog 29 #[va, vb] w fun e w' => e = .returned (.bool true) ∧ Below w.heap.size w w' := by
  have h := alike_any va vb m m w ha hb
  rw [beq_self_eq_true] at h; exact h
end Go.Proofs.Ytnhijmhambggbaa
/-
  slices.IndexFunc, ContainsFunc, DeleteFunc over rows.
-/
namespace Go.Proofs.Ytnhijmhambggbaa
open Go.RowKit Go.Shelf

/-- What the function value answers of a row that meets ok, in whatever world has grown out of W. -/
def RowPred (g : Nat) (cb : Array Value) (ok : List Int → Prop) (p : List Int → Bool) (W : World) : Prop :=
  ∀ (r : List Int) (u : Value) (w : World), ok r → Below W.heap.size W w → InRow w u r → Calls Try.prog g (#[u] ++ cb) w fun e w' => e = .returned (.bool (p r)) ∧ Below w.heap.size w w'
theorem rowPred_mono {g : Nat} {cb : Array Value} {ok : List Int → Prop} {p : List Int → Bool} {W W' : World} (h : RowPred g cb ok p W) (hb : Below W.heap.size W W') : RowPred g cb ok p W' :=
  fun r u w ho hw hr => h r u w ho (hb.trans (hw.mono hb.size)) hr
/-- The place of the first row at which p holds, or -1. -/
def idxP (p : List Int → Bool) (m : List (List Int)) : Int := if m.findIdx p < m.length then (m.findIdx p : Nat) else -1
theorem idxP_hit {p : List Int → Bool} {m : List (List Int)} {k : Nat} (hk : k < m.length) (h : p m[k] = true) (ha : ∀ t, (ht : t < m.length) → t < k → p m[t] = false) : idxP p m = k := by
  have : m.findIdx p = k := (List.findIdx_eq hk).2 ⟨h, fun j hj => ha j (by omega) hj⟩
  rw [idxP, this, if_pos hk]
theorem idxP_miss {p : List Int → Bool} {m : List (List Int)} (ha : ∀ t, (ht : t < m.length) → p m[t] = false) : idxP p m = -1 := by
  rw [idxP, if_neg]
  intro h
  have := List.findIdx_getElem (w := h)
  rw [ha _ h] at this; cases this
theorem idxP_any (p : List Int → Bool) (m : List (List Int)) : decide (0 ≤ idxP p m) = m.any p := by
  cases h : m.any p with
  | true =>
    rw [List.any_eq_true] at h
    obtain ⟨x, hx, hp⟩ := h
    have := List.findIdx_lt_length_of_exists ⟨x, hx, hp⟩
    rw [idxP, if_pos this]; simp
  | false =>
    rw [List.any_eq_false] at h
    rw [idxP_miss fun t ht => by simpa using h _ (List.getElem_mem ht)]; rfl
set_option maxHeartbeats 1000000 in
theorem idxRows_any (v : Value) (m : List (List Int)) (g : Nat) (cb : Array Value) (ok : List Int → Prop) (p : List Int → Bool) (w : World) (eg : ∀ args w, (callFunc g args).run Try.prog w = .ok (.enter g args) w) (hin : InMat w v m) (hok : ∀ r ∈ m, ok r) (hp : RowPred g cb ok p w) :
    Calls Try.prog 108 #[v, .func (.func g) #[] cb] w fun e w' => e = .returned (.int .i64 (idxP p m)) ∧ Below w.heap.size w w' := by
  obtain ⟨a, c, rfl, hm, hpl⟩ := hin
  unfold maxLen at hm
  have HP := hide hp; have HOK := hide hok
  clear hp hok
  by_cases h0 : m.length = 0
  · have hr : m = [] := List.eq_nil_of_length_eq_zero h0
    subst hr
    clear hpl h0 hm
    go_enter Try.func108, Try.ntmps108
    go_wp2
    go_loop [8] (fun i => i = .int .i64 0) (fun _ => 0)
    case atStart => rfl
    case round =>
      obtain rfl := hrel
      go_wp2
      go_ret
      exact ⟨rfl, Below.refl _ _⟩
  · obtain ⟨b, o, rfl, hg, hc⟩ := hpl.resolve_left h0
    have HC := hide hc; have HG := hide hg
    obtain ⟨n, hn⟩ : ∃ n, n = m.length := ⟨_, rfl⟩
    have HN := hide hn
    rw [← hn] at hm ⊢
    clear hpl hc h0 hn hg
    go_enter Try.func108, Try.ntmps108
    go_wp2
    go_loopw [8] (fun i w' => ∃ k : Nat, k ≤ n ∧ i = .int .i64 k ∧ (∀ t, (h : t < m.length) → t < k → p m[t] = false) ∧ Below w.heap.size w w') (fun i _ => n - (intOf i).toNat)
    case atStart => exact ⟨0, Nat.zero_le _, rfl, fun t _ h => absurd h (Nat.not_lt_zero _), Below.refl _ _⟩
    case round =>
      obtain ⟨k, hk, rfl, hall, hb⟩ := hrel
      have HA := hide hall; have HB := hide hb
      clear hall hb
      by_cases hlt : k < n
      · have hk' : k < m.length := by rw [← HN.out]; exact hlt
        obtain ⟨u, hu, hru⟩ := HC.out k hk'
        have hx := below_cell HB.out HG.out hu
        have HCALL := hide (HP.out m[k] u wr (HOK.out _ (List.getElem_mem hk')) HB.out (inRow_below hru HB.out))
        have HHIT := hide (fun h => idxP_hit (p := p) hk' h HA.out)
        have HST : Hid (p m[k] = false → ∀ t, (h : t < m.length) → t < k + 1 → p m[t] = false) := hide fun h t h1 ht => by
          by_cases e : t = k
          · subst e; exact h
          · exact HA.out t h1 (by omega)
        clear hu hru
        obtain ⟨q, hq⟩ : ∃ q, q = p m[k] := ⟨_, rfl⟩
        rw [← hq] at HCALL HHIT HST
        clear hq
        cases q with
        | true =>
          have HF := hide (HHIT.out rfl); clear HHIT HST
          go_wp2_with (go_at_fn g; refine HCALL.out.mono ?_; rintro e w9 ⟨rfl, hb9⟩; have HB9 := hide (HB.out.trans (hb9.mono HB.out.size)); clear hb9)
          go_ret
          exact ⟨by rw [HF.out]; rfl, HB9.out⟩
        | false =>
          have HS2 := hide (HST.out rfl); clear HST HHIT
          go_wp2_with (go_at_fn g; refine HCALL.out.mono ?_; rintro e w9 ⟨rfl, hb9⟩; have HB9 := hide (HB.out.trans (hb9.mono HB.out.size)); clear hb9)
          go_roundw
          case rel => exact ⟨k + 1, by omega, by go_num, HS2.out, HB9.out⟩
          case measure => simp [intOf]; omega
      · have HY := hide (idxP_miss (p := p) fun t h => HA.out t h (by have := HN.out; omega))
        go_wp2
        go_ret
        exact ⟨by rw [HY.out]; rfl, HB.out⟩
set_option maxHeartbeats 400000 in
theorem containsRows_any (v : Value) (m : List (List Int)) (g : Nat) (cb : Array Value) (ok : List Int → Prop) (p : List Int → Bool) (w : World) (eg : ∀ args w, (callFunc g args).run Try.prog w = .ok (.enter g args) w) (hin : InMat w v m) (hok : ∀ r ∈ m, ok r) (hp : RowPred g cb ok p w) :
    Calls Try.prog 66 #[v, .func (.func g) #[] cb] w fun e w' => e = .returned (.bool (m.any p)) ∧ Below w.heap.size w w' := by
  have HI := hide (idxRows_any v m g cb ok p w eg hin hok hp)
  have HY := hide (idxP_any p m)
  have hlo : -1 ≤ idxP p m ∧ idxP p m ≤ maxLen := by
    obtain ⟨a, c, -, hm, -⟩ := hin
    unfold idxP
    by_cases h : m.findIdx p < m.length
    · rw [if_pos h]; omega
    · rw [if_neg h]; exact ⟨by omega, by unfold maxLen; omega⟩
  unfold maxLen at hlo
  obtain ⟨q, hq⟩ : ∃ q, q = idxP p m := ⟨_, rfl⟩
  rw [← hq] at HI HY hlo
  rw [← HY.out]
  obtain ⟨hlo, hhi⟩ := hlo
  clear hin hok hp hq eg HY
  go_enter Try.func66, Try.ntmps66
  go_wp2_with (go_at_call 108; refine HI.out.mono ?_; rintro e w9 ⟨rfl, hb9⟩; have HB9 := hide hb9; clear hb9)
  go_ret
  exact ⟨rfl, HB9.out⟩
end Go.Proofs.Ytnhijmhambggbaa
/-
  slices.Collect over slices.Values: a copy of the list, in memory of the call's own.
-/
namespace Go.Proofs.Ytnhijmhambggbaa
open Go.RowKit Go.Shelf
attribute [local go_sem] Oper.semAt_some

set_option maxRecDepth 100000 in
set_option maxHeartbeats 2000000 in
/-- The iterator of slices.Values: the elements in their order, for every body that keeps what lay in w. -/
theorem valuesEach_in (F : Fence) (n : Nat) (hF : F.fn 105) (hro : F.round = none) (hn : 1 ≤ n) (l Bs : Nat) (v : Value) (zs : List Int) (w W : World) (hin : InRow w v zs) (hW : Below w.heap.size w W) (J Jx : List Int → World → Prop)
    (hY : ∀ pre x W, J pre W → pre.length < zs.length → YieldAt F (n - 1) Try.prog l #[.int .i64 x] W fun e W' =>
      (e = .returned (.bool true) ∧ J (pre ++ [x]) W' ∧ Below w.heap.size W W') ∨ (e = .returned (.bool false) ∧ Jx (pre ++ [x]) W'))
    (hBs : W.cell? ⟨Bs, 0, none⟩ = some v) (h0 : J [] W) :
    CallsIn F n Try.prog 105 #[.func (.yield l) #[] #[], .pointer (some ⟨Bs, 0, none⟩)] W fun e W' => (∃ u, e = .returned u) ∧ ((∃ ys, ys = zs ∧ J ys W') ∨ ∃ pre, pre <+: zs ∧ Jx pre W') := by
  obtain ⟨a, c, rfl, hm, hp⟩ := hin
  unfold maxLen at hm
  have HP := hide fun h : zs.length ≠ 0 => hp.resolve_left h
  have HY := hide hY
  obtain ⟨L, hL⟩ : ∃ L, L = zs.length := ⟨_, rfl⟩
  have HL := hide hL
  rw [← hL] at hm hBs
  clear hp hL hY
  refine callsIn_of_wp Try.func105 rfl hF ?_ hro
  simp only [Try.ntmps105, List.size_toArray, List.length_cons, List.length_nil, Nat.reduceAdd, Nat.reduceSub, Array.replicate_succ, Array.replicate_zero, List.push_toArray, List.append_toArray, List.nil_append, List.cons_append]
  gi_wp2
  gi_loopw [7] (fun i wr => ∃ k : Nat, k ≤ L ∧ i = .int .i64 k ∧ J (zs.take k) wr ∧ Below w.heap.size w wr) (fun i _ => L - (intOf i).toNat)
  case atStart => exact ⟨0, Nat.zero_le _, rfl, h0, hW⟩
  case round =>
    obtain ⟨k, hk, rfl, hJ, hB⟩ := hrel
    have HB := hide hB
    clear hB
    by_cases hlt : k < L
    · obtain ⟨g, o, rfl, hg, hc⟩ := HP.out (by have := HL.out; omega)
      have hk' : k < zs.length := by rw [← HL.out]; exact hlt
      have hx := below_cell HB.out hg (hc k hk')
      have HT := hide (show zs.take (k + 1) = zs.take k ++ [zs[k]] from List.take_succ_eq_append_getElem hk')
      obtain ⟨x, hxx⟩ : ∃ x, x = zs[k] := ⟨_, rfl⟩
      rw [← hxx] at hx HT
      clear hxx hc
      obtain ⟨fn, tmps, assign, body, hy, hR⟩ := HY.out _ x wr hJ (by rw [List.length_take]; omega)
      gi_wp2
      refine hR.mono ?_
      rintro e W3 (⟨rfl, hJ3, hk3⟩ | ⟨rfl, hJx3⟩)
      · have HB3 := hide (HB.out.trans hk3)
        have HJ3 := hide (show J (zs.take (k + 1)) W3 by rw [HT.out]; exact hJ3)
        clear hJ3 hk3
        gi_wp2
        go_roundw
        case rel => exact ⟨k + 1, by omega, by go_num, HJ3.out, HB3.out⟩
        case measure => simp [intOf]; omega
      · have HJ3 := hide (show Jx (zs.take (k + 1)) W3 by rw [HT.out]; exact hJx3)
        clear hJx3
        gi_wp2
        refine bodyPost_ret (results_none rfl _ _ _) rfl ?_
        exact ⟨⟨_, rfl⟩, .inr ⟨_, List.take_prefix _ _, HJ3.out⟩⟩
    · have HE : Hid (zs.take k = zs) := hide (List.take_of_length_le (by have := HL.out; omega))
      rw [HE.out] at hJ
      gi_wp2
      go_end0
      exact ⟨⟨_, rfl⟩, .inl ⟨_, rfl, hJ⟩⟩

set_option maxRecDepth 100000 in
set_option maxHeartbeats 2000000 in
theorem appendSeq_in (F : Fence) (n : Nat) (hA : F.fn 125) (hV : F.fn 105) (hro : F.round = none) (hn : 3 ≤ n) (Bs : Nat) (v : Value) (zs : List Int) (w : World) (hin : InRow w v zs) (hlen : zs.length ≤ 2000000) (hB : Bs < w.heap.size) (hc : w.cell? ⟨Bs, 0, none⟩ = some v) :
    CallsIn F n Try.prog 125 #[.slice none 0 0, .func (.func 105) #[] #[.pointer (some ⟨Bs, 0, none⟩)]] w (IntsRes zs w) := by
  have h1 : 1 ≤ n := by omega
  have HI := hide hin
  obtain ⟨i0, hi, hz0, hz1, hz2⟩ := info_parts Try.infoInt
  clear hin
  refine callsIn_of_wp_marks Try.func125 rfl hA ?_ hro
  simp only [Try.ntmps125, List.size_toArray, List.length_cons, List.length_nil, Nat.reduceAdd, Nat.reduceSub, Array.replicate_succ, Array.replicate_zero, List.push_toArray, List.append_toArray, List.nil_append, List.cons_append]
  gi_wp2
  have bO := Boxed.new w 25 (.slice none 0 0)
  have hB0 : Below w.heap.size w (w.alloc (.cells #[.slice none 0 0] 25)) := (Below.refl _ w).alloc (Nat.le_refl _) _
  have hI0 := inRow_below HI.out hB0
  have hc0 := below_cell hB0 hB hc
  refine wpIn_rangeFunc_ownG hro h1 (gf := 105) (lb := #[.pointer (some ⟨Bs, 0, none⟩)]) rfl hV (enters_of Try.func105 (by kernel_rfl) rfl)
    (encs := fun x : Int => #[Value.int .i64 x]) (Kp := Below w.heap.size) (S := fun ys => ys = zs) (Sp := fun pre => pre <+: zs) (N := zs.length) (w0 := w.alloc (.cells #[.slice none 0 0] 25))
    (fun l J Jx W hW _ _ hY h0 => valuesEach_in F (n - 1) hV hro (by omega) l Bs v zs w W HI.out (hB0.trans (hW.mono hB0.size)) J Jx hY (below_cell hW (Nat.lt_of_lt_of_le hB hB0.size) hc0) h0) belowK_t (belowK_b (by simp)) (Below.refl _ _) (fun _ => rfl)
    (fun pre W => (∃ u, Boxed W w.heap.size 25 u ∧ W.ownsRow w.heap.size 3 1 u pre.length (ints pre) ∧ True) ∧ Below w.heap.size w W)
    (fun _ _ _ => False)
    (OwnFrom.and (Own.from (holdsRow_own w.heap.size w.heap.size 25 3 1 (fun pre : List Int => pre.length) (fun pre => ints pre) (fun _ _ => True)) _) (ownFrom_below (Nat.le_refl _) (by simp)))
    (fun _ _ _ _ _ hs _ _ => hs)
    ⟨⟨_, bO, World.ownsRow_nil _ _ _ _, trivial⟩, hB0⟩
    (fun x => { tmps := #[.slice none 0 0, .func (.func 105) #[] #[.pointer (some ⟨Bs, 0, none⟩)], .pointer (some ⟨w.heap.size, 0, none⟩), undef, .slice none 0 0, .int .i64 x, .func (.func 105) #[] #[.pointer (some ⟨Bs, 0, none⟩)], .int .i64 x, undef, undef, undef, undef, undef], defers := [] }) ?assign ?body ?done ?stop
  case assign =>
    intro l x W K hK
    gi_wp2
    exact hK
  case body =>
    rintro l pre x W ⟨⟨u, hv, hrow, -⟩, hBW⟩ hlt
    have hcu := hv.cell
    gi_wp2_with (gi_at_builtin; refine wpListIn_append_own _ rfl _ _ 25 rfl w.heap.size 3 i0 (.int .i64 0) 1 8 Try.underlying25 hi hz0 hz1 hz2 rfl (by decide) _ _ _ rfl (hrow.alloc _) ⟨W.heap.size, 0, none⟩ 1 1 [.int .i64 x] rfl rfl (cell_one_new _ _ _) (by simp [Value.oneCell']) (by unfold maxLen; omega) (by omega) (by have := hBW.size; simp; omega) ?_; intro v' w1 hown' hgrow _; obtain ⟨g', cap', rfl⟩ := ownsRow_succ hown'; obtain ⟨hv1, hv2, hr2, hk2, hb2⟩ := hv.appended (by decide) hrow hBW.size (Nat.le_refl _) hown' hgrow; have hc1 := hv1.cell; have hf1 := hv1.frozen)
    exact ⟨hk2.from _, hb2, ⟨_, hv2, by simpa [ints] using hr2, trivial⟩, hBW.trans hb2⟩
  case done =>
    rintro D ys W hD rfl ⟨⟨u, hv, hrow, -⟩, hBW⟩ hK
    have hcu := hv.cell
    gi_wp2
    refine ⟨by simp, .inl ⟨_, _, rfl, run_takeDeferred hK, ?_⟩⟩
    exact ⟨_, results_tmp rfl _ _ _, _, rfl, ownsRow_putObj hrow _ hK rfl, hBW.trans (belowK_b (w := w) (Nat.le_refl _) W D _ _ (by simp at hD; omega) hK rfl rfl)⟩
  case stop =>
    rintro D c pre W _ _ h _
    exact h.elim

set_option maxHeartbeats 1000000 in
theorem collect_in (F : Fence) (n : Nat) (hC : F.fn 103) (hA : F.fn 125) (hV : F.fn 105) (hro : F.round = none) (hn : 4 ≤ n) (Bs : Nat) (v : Value) (zs : List Int) (w : World) (hin : InRow w v zs) (hlen : zs.length ≤ 2000000) (hB : Bs < w.heap.size) (hc : w.cell? ⟨Bs, 0, none⟩ = some v) :
    CallsIn F n Try.prog 103 #[.func (.func 105) #[] #[.pointer (some ⟨Bs, 0, none⟩)]] w (IntsRes zs w) := by
  have HX := hide (appendSeq_in F (n - 1) hA hV hro (by omega) Bs v zs w hin hlen hB hc)
  have h1 : 1 ≤ n := by omega
  clear hin hc
  refine callsIn_of_wp Try.func103 rfl hC ?_ hro
  simp only [Try.ntmps103, List.size_toArray, List.length_cons, List.length_nil, Nat.reduceAdd, Nat.reduceSub, Array.replicate_succ, Array.replicate_zero, List.push_toArray, List.append_toArray, List.nil_append, List.cons_append]
  gi_wp2_with (gi_at_call 125; refine HX.out.mono ?_; rintro e w' ⟨u, rfl, ho, hb⟩)
  go_ret
  exact ⟨_, rfl, ho, hb⟩
theorem collectVals_any (Bs : Nat) (v : Value) (zs : List Int) (w : World) (hin : InRow w v zs) (hlen : zs.length ≤ 2000000) (hB : Bs < w.heap.size) (hc : w.cell? ⟨Bs, 0, none⟩ = some v) :
    Calls Try.prog 103 #[.func (.func 105) #[] #[.pointer (some ⟨Bs, 0, none⟩)]] w (IntsRes zs w) :=
  (callsIn_wide (n := 4)).1 (collect_in Fence.wide 4 trivial trivial trivial rfl (by omega) Bs v zs w hin hlen hB hc)
end Go.Proofs.Ytnhijmhambggbaa
/-
  Contracts of the library, at this translation: laid by the shelf, in plain declarations.
-/
namespace Go.Proofs
open Go.Shelf
def Try.sortI_ren : Go.Shelf.Ren := ⟨fun | 6 => 104 | 15 => 127 | 14 => 126 | 28 => 137 | 29 => 138 | 20 => 129 | 21 => 130 | 22 => 131 | 23 => 132 | 24 => 133 | 25 => 134 | 26 => 135 | 27 => 136 | 46 => 139 | 47 => 140 | 48 => 141 | 49 => 142 | 50 => 143 | 57 => 144 | n => n, fun | 22 => 25 | 24 => 3 | 25 => 79 | 3 => 3 | 39 => 135 | 0 => 0 | 53 => 149 | 55 => 151 | 4 => 4 | 46 => 143 | 45 => 142 | 50 => 99 | 5 => 5 | 9 => 9 | 66 => 152 | 70 => 156 | 76 => 158 | 77 => 159 | n => n, fun | n => n⟩
theorem Try.sortI : Go.Proofs.SlLaysF.n6 Try.prog Try.sortI_ren := {
  mixed := by kernel_rfl
  f6 := ⟨Try.f104.name, by decide, Try.func104.trans (congrArg some (by kernel_rfl))⟩
  f14 := ⟨Try.f126.name, by decide, Try.func126.trans (congrArg some (by kernel_rfl))⟩
  f15 := Try.func127.trans (congrArg some (by kernel_rfl))
  f20 := ⟨Try.f129.name, by decide, Try.func129.trans (congrArg some (by kernel_rfl))⟩
  f21 := ⟨Try.f130.name, by decide, Try.func130.trans (congrArg some (by kernel_rfl))⟩
  f22 := ⟨Try.f131.name, by decide, Try.func131.trans (congrArg some (by kernel_rfl))⟩
  f23 := ⟨Try.f132.name, by decide, Try.func132.trans (congrArg some (by kernel_rfl))⟩
  f24 := ⟨Try.f133.name, by decide, Try.func133.trans (congrArg some (by kernel_rfl))⟩
  f25 := ⟨Try.f134.name, by decide, Try.func134.trans (congrArg some (by kernel_rfl))⟩
  f26 := ⟨Try.f135.name, by decide, Try.func135.trans (congrArg some (by kernel_rfl))⟩
  f27 := ⟨Try.f136.name, by decide, Try.func136.trans (congrArg some (by kernel_rfl))⟩
  f28 := Try.func137.trans (congrArg some (by kernel_rfl))
  f29 := Try.func138.trans (congrArg some (by kernel_rfl))
  f46 := ⟨Try.f139.name, by decide, Try.func139.trans (congrArg some (by kernel_rfl))⟩
  f47 := Try.func140.trans (congrArg some (by kernel_rfl))
  f48 := Try.func141.trans (congrArg some (by kernel_rfl))
  f49 := ⟨Try.f142.name, by decide, Try.func142.trans (congrArg some (by kernel_rfl))⟩
  f50 := ⟨Try.f143.name, by decide, Try.func143.trans (congrArg some (by kernel_rfl))⟩
  f57 := ⟨Try.f144.name, by decide, Try.func144.trans (congrArg some (by kernel_rfl))⟩
  t0 := Try.underlying0
  a0 := Try.isAgg0
  z0 := Try.sizeOf0
  v0 := Try.zeroValue0
  t3 := Try.underlying3
  a3 := Try.isAgg3
  z3 := Try.sizeOf3
  v3 := Try.zeroValue3
  t4 := Try.underlying4
  a4 := Try.isAgg4
  z4 := Try.sizeOf4
  v4 := Try.zeroValue4
  t5 := Try.underlying5
  a5 := Try.isAgg5
  z5 := Try.sizeOf5
  v5 := Try.zeroValue5
  t9 := Try.underlying9
  a9 := Try.isAgg9
  z9 := Try.sizeOf9
  v9 := Try.zeroValue9
  t22 := Try.underlying25
  a22 := Try.isAgg25
  z22 := Try.sizeOf25
  v22 := Try.zeroValue25
  a24 := Try.isAgg3
  z24 := Try.sizeOf3
  t25 := Try.underlying79
  a25 := Try.isAgg79
  z25 := Try.sizeOf79
  v25 := Try.zeroValue79
  t39 := Try.underlying135
  a39 := Try.isAgg135
  z39 := Try.sizeOf135
  v39 := Try.zeroValue135
  t45 := Try.underlying142
  a45 := Try.isAgg142
  z45 := Try.sizeOf142
  v45 := Try.zeroValue142
  t46 := Try.underlying143
  a46 := Try.isAgg143
  z46 := Try.sizeOf143
  v46 := Try.zeroValue143
  t50 := Try.underlying99
  a50 := Try.isAgg99
  z50 := Try.sizeOf99
  v50 := Try.zeroValue99
  t53 := Try.underlying149
  a53 := Try.isAgg149
  z53 := Try.sizeOf149
  v53 := Try.zeroValue149
  t55 := Try.underlying151
  a55 := Try.isAgg151
  z55 := Try.sizeOf151
  v55 := Try.zeroValue151
  t66 := Try.underlying152
  a66 := Try.isAgg152
  z66 := Try.sizeOf152
  v66 := Try.zeroValue152
  t70 := Try.underlying156
  a70 := Try.isAgg156
  z70 := Try.sizeOf156
  v70 := Try.zeroValue156
  t76 := Try.underlying158
  a76 := Try.isAgg158
  z76 := Try.sizeOf158
  v76 := Try.zeroValue158
  t77 := Try.underlying159
  a77 := Try.isAgg159
  z77 := Try.sizeOf159
  v77 := Try.zeroValue159 }
end Go.Proofs
/-
  SortedDown of the program: slices.SortedFunc over slices.Values.
-/
namespace Go.Proofs.Ytnhijmhambggbaa
open Go.RowKit

/-- cmp.Compare on integers. -/
def cmpI (x y : Int) : Int := if x < y then -1 else if y < x then 1 else 0
theorem cmpI_neg (x y : Int) : (cmpI x y < 0) = (x < y) := by
  unfold cmpI
  by_cases h1 : x < y
  · rw [if_pos h1]; simp [h1]
  · rw [if_neg h1]
    by_cases h2 : y < x
    · rw [if_pos h2]; simp; omega
    · rw [if_neg h2]; simp; omega
theorem isNaN_any (x : Int) (w : World) : Calls Try.prog 106 #[.int .i64 x] w fun e w' => e = .returned (.bool false) ∧ w = w' := by
  go_enter Try.func106, Try.ntmps106
  go_wp2
  go_ret
  exact ⟨ret_bool (by simp), rfl⟩
set_option maxHeartbeats 400000 in
theorem compare_any (x y : Int) (w : World) : Calls Try.prog 64 #[.int .i64 x, .int .i64 y] w fun e w' => e = .returned (.int .i64 (cmpI x y)) ∧ w = w' := by
  have H1 := hide fun h : x < y => (show cmpI x y = -1 by rw [cmpI, if_pos h])
  have H2 := hide fun (h : ¬ x < y) (h2 : y < x) => (show cmpI x y = 1 by rw [cmpI, if_neg h, if_pos h2])
  have H3 := hide fun (h : ¬ x < y) (h2 : ¬ y < x) => (show cmpI x y = 0 by rw [cmpI, if_neg h, if_neg h2])
  by_cases h1 : x < y
  · rw [H1.out h1]
    go_enter Try.func64, Try.ntmps64
    go_wp2_with (first | (with_reducible refine (isNaN_any x _).mono ?_; rintro e w' ⟨rfl, rfl⟩) | (with_reducible refine (isNaN_any y _).mono ?_; rintro e w' ⟨rfl, rfl⟩))
    go_ret
    exact ⟨rfl, rfl⟩
  · by_cases h2 : y < x
    · rw [H2.out h1 h2]
      go_enter Try.func64, Try.ntmps64
      go_wp2_with (first | (with_reducible refine (isNaN_any x _).mono ?_; rintro e w' ⟨rfl, rfl⟩) | (with_reducible refine (isNaN_any y _).mono ?_; rintro e w' ⟨rfl, rfl⟩))
      go_ret
      exact ⟨rfl, rfl⟩
    · rw [H3.out h1 h2]
      go_enter Try.func64, Try.ntmps64
      go_wp2_with (first | (with_reducible refine (isNaN_any x _).mono ?_; rintro e w' ⟨rfl, rfl⟩) | (with_reducible refine (isNaN_any y _).mono ?_; rintro e w' ⟨rfl, rfl⟩))
      go_ret
      exact ⟨rfl, rfl⟩
theorem downCmp_any (x y : Int) (w : World) : Calls Try.prog 63 #[.int .i64 x, .int .i64 y] w fun e w' => e = .returned (.int .i64 (cmpI y x)) ∧ w = w' := by
  go_enter Try.func63, Try.ntmps63
  go_wp2_with ((with_reducible refine (compare_any y x _).mono ?_); rintro e w' ⟨rfl, rfl⟩)
  go_ret
  exact ⟨rfl, rfl⟩

def downC (x y : Int) : Int := cmpI y x
theorem downC_lt (x y : Int) : ltOf downC x y = decide (y < x) := by
  unfold ltOf downC; simp only [cmpI_neg]
theorem downC_swo : Go.Sort.SWO (ltOf downC) where
  irrefl x := by rw [downC_lt]; simp
  trans x y z h1 h2 := by rw [downC_lt] at *; simp at *; omega
  ntrans x y z h1 h2 := by rw [downC_lt] at *; simp at *; omega

/-- What the sort leaves of a slice that the call owns. -/
theorem own_sorted {w : World} {base E n g cap : Nat} {r : List Int} (s : List Int) (m : Nat) (os : Array Obj) (h : w.ownsRow base E 1 (.slice (some ⟨g, 0, none⟩) n cap) n (ints r)) (hs : s.length = n) :
    (sortWorld (Value.int .i64) w g 0 m s.toArray os).ownsRow base E 1 (.slice (some ⟨g, 0, none⟩) n cap) n (ints s) ∧ w.grownBy (sortWorld (Value.int .i64) w g 0 m s.toArray os) (some g) := by
  rcases h.2 with ⟨he, _⟩ | ⟨g', cap', cur, he, hbg, hg, hc, hm, hz, ht⟩
  · cases he
  cases he
  have hgl := (Array.getElem?_eq_some_iff.1 hg).1
  have hheap : (sortWorld (Value.int .i64) w g 0 m s.toArray os).heap = w.heap.modify g (Go.Sort.onCells (Go.Sort.putCells (Value.int .i64) 0 s.toArray)) ++ os := rfl
  have hsz : (w.heap.modify g (Go.Sort.onCells (Go.Sort.putCells (Value.int .i64) 0 s.toArray))).size = w.heap.size := Array.size_modify
  have hat : (sortWorld (Value.int .i64) w g 0 m s.toArray os).heap[g]? = some (.cells (Go.Sort.putCells (Value.int .i64) 0 s.toArray cur) E (0, 0)) := by
    rw [hheap, Array.getElem?_append_left (by rw [hsz]; exact hgl), Array.getElem?_modify, if_pos rfl, hg]; rfl
  refine ⟨⟨by rw [ints_len]; omega, .inr ⟨g, cap, _, rfl, hbg, hat, hc, hm, by rw [Go.Sort.putCells, Array.size_mapIdx]; exact hz, ?_⟩⟩, ⟨rfl, rfl, rfl, by rw [hheap, Array.size_append, hsz]; omega, fun k hk hne => ?_⟩⟩
  · apply List.ext_getElem
    · rw [List.length_take, Array.length_toList, Go.Sort.putCells, Array.size_mapIdx, ints_len]; omega
    · intro i h1 h2
      rw [ints_len] at h2
      have h3 := ints_at s i h2
      rw [List.getElem?_eq_getElem (by rw [ints_len]; exact h2)] at h3
      rw [Option.some.inj h3, List.getElem_take, Array.getElem_toList]
      simp only [Go.Sort.putCells, Array.getElem_mapIdx]
      rw [if_pos ⟨Nat.zero_le _, by simp; omega⟩]
      simp [h2]
  · rw [hheap, Array.getElem?_append_left (by rw [hsz]; exact hk), Array.getElem?_modify, if_neg (fun e => hne (by rw [e]))]

set_option maxHeartbeats 1000000 in
theorem sortFunc_any (base : Nat) (v : Value) (r : List Int) (w : World) (h : w.ownsRow base 3 1 v r.length (ints r)) (hr : r.length ≤ 2000000) (hb : base ≤ w.heap.size) :
    Calls Try.prog 104 #[v, .func (.func 63) #[] #[]] w fun e w' => e = .returned (.tuple #[]) ∧ w'.ownsRow base 3 1 v r.length (ints (sortD r)) ∧ Below base w w' := by
  by_cases h0 : r.length = 0
  · obtain rfl : r = [] := List.eq_nil_of_length_eq_zero h0
    obtain ⟨a, c, rfl⟩ := own_none h
    have hcon := AnyF.slices_SortFunc_none (P := Try.prog) (ρ := Try.sortI_ren) { Try.sortI with } a c (.func (.func 63) #[] #[]) w
    change Calls Try.prog 104 _ _ _ at hcon
    refine hcon.mono ?_
    rintro e w' ⟨rfl, rfl⟩
    exact ⟨rfl, by simpa [sortD] using h, Below.refl _ _⟩
  · obtain ⟨g, cap, rfl, hbg, hg, hc, hm, hcell, hfr⟩ := own_some h (by omega)
    have eg : ∀ args w, (callFunc 63 args).run Try.prog w = .ok (.enter 63 args) w := enters_of Try.func63 (by kernel_rfl) rfl
    have hcmp : CmpLays1 Try.prog 63 #[] (Value.int .i64) downC g 0 r.toArray.size w := fun m os dk _ x y =>
      (downCmp_any x y _).mono fun e w' ⟨he, hw⟩ => ⟨he, 0, #[], by rw [← hw, Go.Sort.grow_empty]; rfl⟩
    have hH : Go.Sort.Holds (Value.int .i64) w g 0 r.toArray := fun j hj => by
      have hj' : j < r.length := by simpa using hj
      rw [Nat.zero_add]
      exact ⟨by rw [hcell j hj', ints_at r j hj']; simp [hj'], hfr j⟩
    have hcon := Any.slices_SortFunc_total Try.sortI (Value.int .i64) (fun _ => rfl) downC downC_swo 63 #[] g 0 cap r.toArray w eg hcmp hH hg (by simp; omega)
      (fun x y h1 h2 => by rw [downC_lt] at h1 h2; simp at h1 h2; omega)
    change Calls Try.prog 104 _ _ _ at hcon
    rw [List.size_toArray] at hcon
    refine hcon.mono ?_
    rintro e w' ⟨rfl, m, os, rfl⟩
    have hs : (r.mergeSort fun x y => !ltOf downC y x) = sortD r := by
      rw [sortD]; congr 1; funext x y; rw [downC_lt]; by_cases hxy : x < y
      · rw [decide_eq_true hxy, decide_eq_false (by omega)]; rfl
      · rw [decide_eq_false hxy, decide_eq_true (by omega)]; rfl
    dsimp only
    rw [hs]
    obtain ⟨k1, k2⟩ := own_sorted (sortD r) m os h (sortD_len r)
    exact ⟨rfl, k1, (Below.refl _ _).grown k2 hb (fun k hk => by cases hk; exact hbg)⟩

theorem values_any (a : Option Addr) (n c : Nat) (w : World) :
    Calls Try.prog 62 #[.slice a n c] w fun e w' => e = .returned (.func (.func 105) #[] #[.pointer (some ⟨w.heap.size, 0, none⟩)]) ∧ w' = w.alloc (.cells #[.slice a n c] 25) := by
  go_enter Try.func62, Try.ntmps62
  go_wp2
  go_ret
  exact ⟨rfl, rfl⟩
set_option maxHeartbeats 400000 in
theorem sortedFunc_any (Bs : Nat) (v : Value) (r : List Int) (w : World) (hin : InRow w v r) (hr : r.length ≤ 2000000) (hB : Bs < w.heap.size) (hc : w.cell? ⟨Bs, 0, none⟩ = some v) :
    Calls Try.prog 61 #[.func (.func 105) #[] #[.pointer (some ⟨Bs, 0, none⟩)], .func (.func 63) #[] #[]] w (IntsRes (sortD r) w) := by
  have HX := hide (collectVals_any Bs v r w hin hr hB hc)
  clear hin hc
  go_enter Try.func61, Try.ntmps61
  go_wp2_with fail
  refine HX.out.mono ?_
  rintro e w1 ⟨u, rfl, ho, hb⟩
  have HS := hide (sortFunc_any w.heap.size u r w1 ho hr hb.size)
  have HB := hide hb
  clear ho hb
  go_wp2_with fail
  refine HS.out.mono ?_
  rintro e w2 ⟨rfl, ho, hb⟩
  have HO := hide ho; have HB2 := hide (HB.out.trans hb)
  clear ho hb
  go_wp2
  go_ret
  exact ⟨_, rfl, by rw [sortD_len]; exact HO.out, HB2.out⟩
set_option maxHeartbeats 400000 in
theorem implSortedDown_any (v : Value) (l : List Int) (w : World) (hin : InRow w v l) (hl : l.length ≤ 1048576) :
    Calls Try.prog 18 #[v] w (IntsRes (sortD l) w) := by
  have hb := (Below.refl w.heap.size w).alloc (Nat.le_refl _) (.cells #[v] 25)
  have HX := hide (sortedFunc_any w.heap.size v l _ (inRow_below hin hb) (by omega) (by simp) (show (w.alloc (.cells #[v] 25)).cell? ⟨w.heap.size, 0, none⟩ = some v by simp [World.cell?_alloc_new]))
  have HB := hide hb
  obtain ⟨a, c, rfl, -, -⟩ := hin
  clear hb
  go_enter Try.func18, Try.ntmps18
  go_wp2_with fail
  refine (values_any a _ c _).mono ?_
  rintro e w1 ⟨rfl, rfl⟩
  go_wp2_with fail
  refine HX.out.mono ?_
  rintro e w2 ⟨u, rfl, ho, hb⟩
  have HO := hide (own_base ho HB.out.size); have HB2 := hide (HB.out.trans (hb.mono HB.out.size))
  clear ho hb
  go_wp2
  go_ret
  exact ⟨_, rfl, HO.out, HB2.out⟩
end Go.Proofs.Ytnhijmhambggbaa
/-
  IsStaircase, of the model and of the program.
-/
namespace Go.Proofs.Ytnhijmhambggbaa
open Go.RowKit Go.Shelf

/-- The cells of the row stand in descending order. -/
def downB (r : List Int) : Bool := r == sortD r
def stairB (m : List (List Int)) : Bool := okB m && !m.any fun r => !downB r
theorem downB_iff (r : List Int) : downB r = true ↔ Desc r := by
  unfold downB
  rw [beq_iff_eq]
  constructor
  · intro h; rw [h]; exact sortD_desc r
  · intro h; exact sortD_of (List.Perm.refl r) h
theorem desc_of_next {r : List Int} (h : ∀ x, (h1 : x + 1 < r.length) → r[x + 1] ≤ r[x]) : Desc r := by
  have hd : ∀ d x, (h1 : x + d < r.length) → r[x + d] ≤ r[x] := by
    intro d
    induction d with
    | zero => intro x _; exact Int.le_refl _
    | succ d ih =>
      intro x h1
      have a := ih x (by omega)
      have b := h (x + d) (by omega)
      exact Int.le_trans b a
  refine List.pairwise_iff_getElem.2 fun i j hi hj hij => ?_
  obtain ⟨d, rfl⟩ : ∃ d, j = i + d := ⟨j - i, by omega⟩
  exact hd d i hj
theorem downB_no {r : List Int} (x : Nat) (h1 : x + 1 < r.length) (h : r[x] < r[x + 1]) : downB r = false := by
  cases e : downB r with
  | false => rfl
  | true =>
    have := List.pairwise_iff_getElem.1 ((downB_iff r).1 e) x (x + 1) (by omega) h1 (by omega)
    omega
theorem okB_rows {m : List (List Int)} (h : okB m = true) : (1 ≤ m.length ∧ m.length ≤ 5) ∧ (1 ≤ widthM m ∧ widthM m ≤ 5) ∧ ∀ r ∈ m, r.length = widthM m := by
  unfold okB at h
  simp only [Bool.and_eq_true, decide_eq_true_eq, List.all_eq_true] at h
  obtain ⟨⟨h1, h2⟩, h3⟩ := h
  refine ⟨h1, h2, fun r hr => ?_⟩
  have := h3 r hr
  unfold rowOk at this
  simp only [Bool.and_eq_true, beq_iff_eq] at this
  exact this.1

set_option maxHeartbeats 400000 in
theorem stairRow_any (r : List Int) (u : Value) (w : World) (hr : r.length ≤ 5) (hin : InRow w u r) :
    Calls Try.prog 67 #[u] w fun e w' => e = .returned (.bool (!downB r)) ∧ Below w.heap.size w w' := by
  have HI := hide hin
  clear hin
  go_enter Try.func67, Try.ntmps67
  go_wp2_with fail
  refine (implSortedDown_any u r _ HI.out (by omega)).mono ?_
  rintro e w1 ⟨v1, rfl, ho, hb⟩
  have HO := hide (inRow_own (r := sortD r) (by rw [sortD_len] at ho ⊢; exact ho)); have HB := hide hb; have HI1 := hide (inRow_below HI.out hb)
  clear ho hb
  go_wp2_with fail
  refine (equal_any u v1 r (sortD r) _ HI1.out HO.out).mono ?_
  rw [show (r == sortD r) = downB r from rfl]
  rintro e w2 ⟨rfl, hb⟩
  have HB2 := hide (HB.out.trans (hb.mono HB.out.size))
  clear hb
  go_wp2
  go_ret
  exact ⟨rfl, HB2.out⟩
theorem enters_stairRow : ∀ args w, (callFunc 67 args).run Try.prog w = .ok (.enter 67 args) w := enters_of Try.func67 (by kernel_rfl) rfl
set_option maxHeartbeats 400000 in
theorem implIsStair_any (v : Value) (m : List (List Int)) (w : World) (hin : InMat w v m) :
    Calls Try.prog 19 #[v] w fun e w' => e = .returned (.bool (stairB m)) ∧ Below w.heap.size w w' := by
  have HI := hide hin
  clear hin
  cases h : okB m with
  | false =>
    rw [stairB, h]
    have H := hide h
    clear h
    go_enter Try.func19, Try.ntmps19
    go_wp2_with ((with_reducible refine (implImageOk_any v m _ HI.out).mono ?_); rw [H.out]; rintro e w1 ⟨rfl, rfl⟩)
    go_ret
    exact ⟨rfl, Below.refl _ _⟩
  | true =>
    rw [stairB, h]
    have H := hide h
    obtain ⟨-, h2, h3⟩ := okB_rows h
    have HC := hide (fun (w : World) (hi : InMat w v m) => containsRows_any v m 67 #[] (fun r => r.length ≤ 5) (fun r => !downB r) w enters_stairRow hi (fun r hr => by rw [h3 r hr]; exact h2.2)
      (fun r u w' hr _ hi => by rw [show #[u] ++ (#[] : Array Value) = #[u] from rfl]; exact stairRow_any r u w' hr hi))
    obtain ⟨q, hq⟩ : ∃ q, q = m.any fun r => !downB r := ⟨_, rfl⟩
    rw [← hq] at HC ⊢
    clear h hq h2 h3
    go_enter Try.func19, Try.ntmps19
    go_wp2_with (first | ((with_reducible refine (implImageOk_any v m _ HI.out).mono ?_); rw [H.out]; rintro e w1 ⟨rfl, rfl⟩) | (go_at_call 66; refine (HC.out _ HI.out).mono ?_; rintro e w2 ⟨rfl, b2⟩; have B2 := hide b2; clear b2))
    go_ret
    exact ⟨rfl, B2.out⟩

end Go.Proofs.Ytnhijmhambggbaa
/-
  ColSums of both.
-/
namespace Go.Proofs.Ytnhijmhambggbaa
open Go.RowKit

theorem implColSums_no (v : Value) (m : List (List Int)) (w : World) (hin : InMat w v m) (h : okB m = false) :
    Calls Try.prog 20 #[v] w (IntsRes [] w) := by
  have HI := hide hin; have H := hide h
  clear hin h
  go_enter Try.func20, Try.ntmps20
  go_wp2_with fail
  refine (implTransposeOf_no v m _ HI.out H.out).mono ?_
  rintro e w1 ⟨u, rfl, ho, hb⟩
  have HM := hide (inMat_own ho); have HB := hide hb
  clear ho hb
  go_wp2_with fail
  refine (implRowSums_no u [] _ HM.out (by decide)).mono ?_
  rintro e w2 ⟨u2, rfl, ho, hb⟩
  have HO := hide (own_base ho HB.out.size); have HB2 := hide (HB.out.trans (hb.mono HB.out.size))
  clear ho hb
  go_wp2
  go_ret
  exact ⟨_, rfl, HO.out, HB2.out⟩
theorem implColSums_yes (v : Value) (R C : Nat) (f : Nat → Nat → Int) (w : World) (hin : InMat w v (mkM R C f)) (hI : Img R C f) :
    Calls Try.prog 20 #[v] w (IntsRes (rowsL C R (trM f)) w) := by
  have HI := hide hin; have H := hide hI
  clear hin hI
  go_enter Try.func20, Try.ntmps20
  go_wp2_with fail
  refine (implTransposeOf_yes v R C f _ HI.out H.out).mono ?_
  rintro e w1 ⟨u, rfl, ho, hb⟩
  have HM := hide (inMat_own ho); have HB := hide hb
  clear ho hb
  go_wp2_with fail
  refine (implRowSums_yes u C R (trM f) _ HM.out (img_tr H.out)).mono ?_
  rintro e w2 ⟨u2, rfl, ho, hb⟩
  have HO := hide (own_base ho HB.out.size); have HB2 := hide (HB.out.trans (hb.mono HB.out.size))
  clear ho hb
  go_wp2
  go_ret
  exact ⟨_, rfl, HO.out, HB2.out⟩

theorem specColSums_no (v : Value) (m : List (List Int)) (w : World) (hin : InMat w v m) (h : okB m = false) :
    Calls Try.prog 121 #[v] w (IntsRes [] w) := by
  have HI := hide hin; have H := hide h
  clear hin h
  go_enter Try.func121, Try.ntmps121
  go_wp2_with fail
  refine (specTransposeOf_no v m _ HI.out H.out).mono ?_
  rintro e w1 ⟨u, rfl, ho, hb⟩
  have HM := hide (inMat_own ho); have HB := hide hb
  clear ho hb
  go_wp2_with fail
  refine (specRowSums_no u [] _ HM.out (by decide)).mono ?_
  rintro e w2 ⟨u2, rfl, ho, hb⟩
  have HO := hide (own_base ho HB.out.size); have HB2 := hide (HB.out.trans (hb.mono HB.out.size))
  clear ho hb
  go_wp2
  go_ret
  exact ⟨_, rfl, HO.out, HB2.out⟩
theorem specColSums_yes (v : Value) (R C : Nat) (f : Nat → Nat → Int) (w : World) (hin : InMat w v (mkM R C f)) (hI : Img R C f) :
    Calls Try.prog 121 #[v] w (IntsRes (rowsL C R (trM f)) w) := by
  have HI := hide hin; have H := hide hI
  clear hin hI
  go_enter Try.func121, Try.ntmps121
  go_wp2_with fail
  refine (specTransposeOf_yes v R C f _ HI.out H.out).mono ?_
  rintro e w1 ⟨u, rfl, ho, hb⟩
  have HM := hide (inMat_own ho); have HB := hide hb
  clear ho hb
  go_wp2_with fail
  refine (specRowSums_yes u C R (trM f) _ HM.out (img_tr H.out)).mono ?_
  rintro e w2 ⟨u2, rfl, ho, hb⟩
  have HO := hide (own_base ho HB.out.size); have HB2 := hide (HB.out.trans (hb.mono HB.out.size))
  clear ho hb
  go_wp2
  go_ret
  exact ⟨_, rfl, HO.out, HB2.out⟩
end Go.Proofs.Ytnhijmhambggbaa
/-
  Worlds that have grown: some draws, some blocks laid behind.
-/
namespace Go.Proofs.Ytnhijmhambggbaa
open Go.RowKit

/-- After some draws, with some blocks laid behind. -/
def GrownW (w w' : World) : Prop := ∃ q os, w' = Go.Sort.grow (w.drewN q) os
theorem grownW_refl (w : World) : GrownW w w := ⟨0, #[], by rw [Go.Sort.grow_empty]; rfl⟩
theorem grownW_grow (w : World) (q : Nat) (os : Array Obj) : GrownW w (Go.Sort.grow (w.drewN q) os) := ⟨q, os, rfl⟩
theorem grownW_trans {a b c : World} (h : GrownW a b) (k : GrownW b c) : GrownW a c := by
  obtain ⟨q, os, rfl⟩ := h
  obtain ⟨p, os', rfl⟩ := k
  exact ⟨q + p, os ++ os', by show Go.Sort.grow (Go.Sort.grow ((a.drewN q).drewN p) os) os' = _; rw [Go.Sort.grow_grow, World.drewN_drewN]⟩
theorem grownW_alloc (w : World) (o : Obj) : GrownW w (w.alloc o) := ⟨0, #[o], by rw [Go.Sort.alloc_eq_grow]; rfl⟩
theorem grownW_below {w w' : World} (h : GrownW w w') : Below w.heap.size w w' := by
  obtain ⟨q, os, rfl⟩ := h
  refine ⟨rfl, rfl, rfl, ?_, fun k hk => ?_⟩
  · show w.heap.size ≤ (w.heap ++ os).size
    rw [Array.size_append]; omega
  · show (w.heap ++ os)[k]? = _
    rw [Array.getElem?_append_left hk]
theorem quiet_of {P : Program} {f : FuncId} {args : Array Value} {w : World} {n : Nat} {os : Array Obj} {v : Value} (h : Calls P f args (Go.Sort.grow (w.drewN n) os) fun e w' => e = .returned v ∧ GrownW (Go.Sort.grow (w.drewN n) os) w') :
    Calls P f args (Go.Sort.grow (w.drewN n) os) fun e w'' => e = .returned v ∧ ∃ p : GrownBy, w'' = Go.Sort.grow (w.drewN p.n) p.os := Calls.grown_of h
end Go.Proofs.Ytnhijmhambggbaa
/-
  Switches as values and in variables; a cell of an image; whether a switch is one of an image.
-/
namespace Go.Proofs.Ytnhijmhambggbaa
open Go.RowKit

def swA (s : Sw) : Array Value := #[.int .i64 s.y1, .int .i64 s.y2, .int .i64 s.x1, .int .i64 s.x2]
def swV (s : Sw) : Value := .agg (swA s)
/-- A switch in a variable. -/
def SwAt (w : World) (g : Nat) (s : Sw) : Prop := w.heap[g]? = some (.cells (swA s) 42 (0, 0))
theorem swAt_lt {w : World} {g : Nat} {s : Sw} (h : SwAt w g s) : g < w.heap.size := (Array.getElem?_eq_some_iff.1 h).1
theorem swAt_below {w w' : World} {g : Nat} {s : Sw} (h : SwAt w g s) (hb : Below w.heap.size w w') : SwAt w' g s := by
  unfold SwAt; rw [hb.block g (swAt_lt h)]; exact h
theorem swAt_grown {w w' : World} {g : Nat} {s : Sw} {row : Option Nat} (h : SwAt w g s) (hg : w.grownBy w' row) (hr : row ≠ some g) : SwAt w' g s := by
  unfold SwAt; rw [hg.block g (swAt_lt h) (Ne.symm hr)]; exact h
theorem swAt_cells {w : World} {g : Nat} {s : Sw} (h : SwAt w g s) : w.cell? ⟨g, 0, none⟩ = some (.int .i64 s.y1) ∧ w.cell? ⟨g, 1, none⟩ = some (.int .i64 s.y2) ∧ w.cell? ⟨g, 2, none⟩ = some (.int .i64 s.x1) ∧ w.cell? ⟨g, 3, none⟩ = some (.int .i64 s.x2) :=
  ⟨by rw [cell_of_row w g 0 _ _ _ h]; rfl, by rw [cell_of_row w g 1 _ _ _ h]; rfl, by rw [cell_of_row w g 2 _ _ _ h]; rfl, by rw [cell_of_row w g 3 _ _ _ h]; rfl⟩
theorem Try.sizeSw : (Try.prog.info? 42).map (·.size) = some 4 := by kernel_rfl
theorem swA_size (s : Sw) : (swA s).size = 4 := rfl
theorem swA_one (s : Sw) : (swA s).all (·.oneCell') = true := by simp [swA, Value.oneCell']
theorem wpList_loadSw {ops : Array Oper} {rest : List Oper} {o : Oper} {a : Act} {Q : Exit → Act → World → Prop} {W : World} {g : Nat} {s : Sw} (hb : SwAt W g s)
    (d : Tmp) (_hd : o.dst = some d) (hgd : o.guard = none) (x : Operand) (ho : o.op = .load 42 x) (hx : a.eval x = .pointer (some ⟨g, 0, none⟩))
    (h : wpList Try.prog ops Q rest (a.put o.dst (swV s)) W) : wpList Try.prog ops Q (o :: rest) a W :=
  wpList_load_row hgd _ x ho g hx _ _ (0, 0) _ hb Try.underlying42 rfl Try.sizeSw h
theorem exec_loadSw {ρ : Operand → Value} {o : Oper} {w : World} {x : Operand} {g : Nat} {s : Sw} (ho : o.op = .load 42 x) (hx : ρ x = .pointer (some ⟨g, 0, none⟩)) (hb : SwAt w g s) : (execOp ρ o).run Try.prog w = .ok (.value (swV s)) w := by
  unfold execOp
  simp only [ho, hx]
  have hc := swAt_cells hb
  obtain ⟨h0, h1, h2, h3⟩ := hc
  go_simp
  rfl
theorem swAt_new (w : World) (s : Sw) : SwAt (w.alloc (.cells (swA s) 42)) w.heap.size s := heap_alloc_new w _
/-- A switch goes into a new variable. -/
theorem wpList_boxSw {P : Program} {ops : Array Oper} {rest : List Oper} {o : Oper} {a : Act} {Q : Exit → Act → World → Prop} {W : World} (s : Sw)
    (d : Tmp) (_hd : o.dst = some d) (hgd : o.guard = none) (x : Operand) (ho : o.op = .box 42 x) (hx : a.eval x = swV s)
    (h : ∀ w', SwAt w' W.heap.size s → Below W.heap.size W w' → w'.heap.size = W.heap.size + 1 → wpList P ops Q rest (a.put o.dst (.pointer (some ⟨W.heap.size, 0, none⟩))) w') : wpList P ops Q (o :: rest) a W := by
  refine wpList_plain hgd fun K hK => ?_
  unfold Oper.wp execOp
  simp only [ho, hx, Instr.box, Sem.run_bind]
  simp [newVar, newRow, Value.cells, swV]
  exact hK _ _ (h _ (swAt_new W s) ((Below.refl _ _).alloc (Nat.le_refl _) _) (by simp))

/-- The cell of five rows of five, -1 outside. -/
def cellF (F : Nat → Int) (y x : Int) : Int := if 0 ≤ y ∧ y < 5 ∧ 0 ≤ x ∧ x < 5 then F (5 * y.toNat + x.toNat) else -1
theorem cell_any (F : Nat → Int) (y x : Int) (w : World) :
    Calls Try.prog 113 #[.agg (vec 25 F), .int .i64 y, .int .i64 x] w fun e w' => e = .returned (.int .i64 (cellF F y x)) ∧ Below w.heap.size w w' := by
  by_cases h : y < 0 ∨ 5 ≤ y ∨ x < 0 ∨ 5 ≤ x
  · have := cell_out F y x w h
    rw [cellF, if_neg (by omega)]; exact this
  · obtain ⟨a, rfl⟩ : ∃ a : Nat, y = a := ⟨y.toNat, by omega⟩
    obtain ⟨b, rfl⟩ : ∃ b : Nat, x = b := ⟨x.toNat, by omega⟩
    have := cell_in F a b w (by omega) (by omega)
    rw [cellF, if_pos (by omega)]; exact this
/-- Whether the switch is one of the image. -/
def hasF (F : Nat → Int) (s : Sw) : Bool :=
  decide (s.y1 < s.y2) && decide (s.x1 < s.x2) && decide (cellF F s.y1 s.x1 ≠ cellF F s.y1 s.x2) && decide (cellF F s.y2 s.x1 = cellF F s.y1 s.x2) && decide (cellF F s.y2 s.x2 = cellF F s.y1 s.x1)
theorem cellF_img {R C : Nat} {f : Nat → Nat → Int} (h : Img R C f) (y x : Int) : cellF (imgF R C f) y x = if 0 ≤ y ∧ y < R ∧ 0 ≤ x ∧ x < C then f y.toNat x.toNat else -1 := by
  have hR := h.r2; have hC := h.c2
  unfold cellF
  by_cases h0 : 0 ≤ y ∧ y < 5 ∧ 0 ≤ x ∧ x < 5
  · rw [if_pos h0, imgF_at _ _ _ _ _ (by omega)]
    by_cases h1 : 0 ≤ y ∧ y < R ∧ 0 ≤ x ∧ x < C
    · rw [if_pos (by omega), if_pos h1]
    · rw [if_neg (by omega), if_neg h1]
  · rw [if_neg h0, if_neg (by omega)]
theorem hasF_img {R C : Nat} {f : Nat → Nat → Int} (h : Img R C f) (s : Sw) : hasF (imgF R C f) s = swF R C f s := by
  have hR := h.r2; have hC := h.c2
  obtain ⟨y1, y2, x1, x2⟩ := s
  rw [Bool.eq_iff_iff]
  simp only [hasF, cellF_img h, swF, four, Bool.and_eq_true, decide_eq_true_eq]
  by_cases hh : (0 ≤ y1 ∧ 0 ≤ x1) ∧ y1 < y2 ∧ x1 < x2
  · obtain ⟨⟨h1, h2⟩, h3, h4⟩ := hh
    obtain ⟨a, rfl⟩ : ∃ a : Nat, y1 = a := ⟨y1.toNat, by omega⟩
    obtain ⟨b, rfl⟩ : ∃ b : Nat, y2 = b := ⟨y2.toNat, by omega⟩
    obtain ⟨c, rfl⟩ : ∃ c : Nat, x1 = c := ⟨x1.toNat, by omega⟩
    obtain ⟨d, rfl⟩ : ∃ d : Nat, x2 = d := ⟨x2.toNat, by omega⟩
    simp only [Int.toNat_natCast]
    by_cases hb : b < R ∧ d < C
    · obtain ⟨hb, hd⟩ := hb
      have e1 := h.cell a c (by omega) (by omega); have e2 := h.cell a d (by omega) (by omega); have e3 := h.cell b c (by omega) (by omega); have e4 := h.cell b d (by omega) (by omega)
      rw [if_pos (by omega), if_pos (by omega), if_pos (by omega), if_pos (by omega)]
      omega
    · constructor
      · intro hx
        exfalso
        obtain ⟨⟨⟨⟨-, -⟩, g1⟩, g2⟩, g3⟩ := hx
        rw [if_neg (show ¬ (0 ≤ (b : Int) ∧ (b : Int) < R ∧ 0 ≤ (d : Int) ∧ (d : Int) < C) by omega)] at g3
        by_cases hc : a < R ∧ c < C
        · have := h.cell a c hc.1 hc.2
          rw [if_pos (by omega)] at g3
          omega
        · rw [if_neg (show ¬ (0 ≤ (a : Int) ∧ (a : Int) < R ∧ 0 ≤ (c : Int) ∧ (c : Int) < C) by omega)] at g1
          rw [if_neg (by omega)] at g1
          exact g1 rfl
      · rintro ⟨-, h5⟩; omega
  · constructor
    · intro hx
      exfalso
      obtain ⟨⟨⟨⟨k1, k2⟩, g1⟩, g2⟩, g3⟩ := hx
      have hn : ¬ (0 ≤ y1 ∧ 0 ≤ x1) := fun e => hh ⟨e, k1, k2⟩
      rw [if_neg (show ¬ (0 ≤ y1 ∧ y1 < R ∧ 0 ≤ x1 ∧ x1 < C) by omega)] at g1 g3
      split at g1 <;> split at g3 <;> split at g2 <;> first | omega | skip
      all_goals first | (exact g1 rfl) | skip
      all_goals (rename_i q1 q2 q3; omega)
    · rintro ⟨⟨⟨⟨k1, k2⟩, k3⟩, k4⟩, -⟩
      exact absurd ⟨⟨k1, k2⟩, k3, k4⟩ hh
end Go.Proofs.Ytnhijmhambggbaa
