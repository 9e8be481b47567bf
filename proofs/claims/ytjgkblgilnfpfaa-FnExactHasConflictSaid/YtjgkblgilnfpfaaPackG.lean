/-
  Texts of this claim, one behind the other: RowFn, DelI, DelR, PushL, Seq, ShSort, SortF, Grown, Bound.
-/
import Derived.Test.YtjgkblgilnfpfaaPackC
import Derived.Laws.IdiomCopy
import Derived.Lib.SliceRun
import Derived.Shelf.Abstract
import Derived.Deep.LoopGhost
import Derived.Shelf.Slices.Delete
import Derived.Shelf.Slices.Cells
import Derived.Lib.OwnBridge
import Derived.Laws.AppendOwnNone
import Derived.Test.YtjgkblgilnfpfaaPackD
import Derived.RangeFuncBox
import Derived.RangeFuncLeaves
import Derived.OwnWalkIn
import Derived.TacticsInMore
import Derived.LoopNIn
import Derived.LoopIn
import Derived.Maps.AppendAt
import Derived.Shelf.SlSortCmp.NoneTotal
import Derived.Test.YtjgkblgilnfpfaaProg
import Derived.Test.YtjgkblgilnfpfaaPackA
import Derived.Shelf.SlSortCmp.QuietGrown
/-
  slices.IndexFunc, ContainsFunc, DeleteFunc over rows.
-/
namespace Go.Proofs.Ytjgkblgilnfpfaa
open Go.RowKit Go.Shelf

/-- What the function value answers of a row that meets ok, in whatever world has grown out of W. -/
def RowPred (g : Nat) (cb : Array Value) (ok : List Int → Prop) (p : List Int → Bool) (W : World) : Prop :=
  ∀ (r : List Int) (u : Value) (w : World), ok r → Below W.heap.size W w → InRow w u r → Calls Try.prog g (#[u] ++ cb) w fun e w' => e = .returned (.bool (p r)) ∧ Below w.heap.size w w'
theorem rowPred_mono {g : Nat} {cb : Array Value} {ok : List Int → Prop} {p : List Int → Bool} {W W' : World} (h : RowPred g cb ok p W) (hb : Below W.heap.size W W') : RowPred g cb ok p W' :=
  fun r u w ho hw hr => h r u w ho (hb.trans (hw.mono hb.size)) hr
/-- The place of the first row at which p holds, or -1. -/
def idxP (p : List Int → Bool) (m : List (List Int)) : Int := if m.findIdx p < m.length then (m.findIdx p : Nat) else -1
theorem idxP_hit {p : List Int → Bool} {m : List (List Int)} {k : Nat} (hk : k < m.length) (h : p m[k] = true) (ha : ∀ t, (ht : t < m.length) → t < k → p m[t] = false) : idxP p m = k := by
  have : m.findIdx p = k := (List.findIdx_eq hk).2 ⟨h, fun j hj => ha j (by omega) hj⟩
  rw [idxP, this, if_pos hk]
theorem idxP_miss {p : List Int → Bool} {m : List (List Int)} (ha : ∀ t, (ht : t < m.length) → p m[t] = false) : idxP p m = -1 := by
  rw [idxP, if_neg]
  intro h
  have := List.findIdx_getElem (w := h)
  rw [ha _ h] at this; cases this
theorem idxP_any (p : List Int → Bool) (m : List (List Int)) : decide (0 ≤ idxP p m) = m.any p := by
  cases h : m.any p with
  | true =>
    rw [List.any_eq_true] at h
    obtain ⟨x, hx, hp⟩ := h
    have := List.findIdx_lt_length_of_exists ⟨x, hx, hp⟩
    rw [idxP, if_pos this]; simp
  | false =>
    rw [List.any_eq_false] at h
    rw [idxP_miss fun t ht => by simpa using h _ (List.getElem_mem ht)]; rfl
set_option maxHeartbeats 1000000 in
theorem idxRows_any (v : Value) (m : List (List Int)) (g : Nat) (cb : Array Value) (ok : List Int → Prop) (p : List Int → Bool) (w : World) (eg : ∀ args w, (callFunc g args).run Try.prog w = .ok (.enter g args) w) (hin : InMat w v m) (hok : ∀ r ∈ m, ok r) (hp : RowPred g cb ok p w) :
    Calls Try.prog 78 #[v, .func (.func g) #[] cb] w fun e w' => e = .returned (.int .i64 (idxP p m)) ∧ Below w.heap.size w w' := by
  obtain ⟨a, c, rfl, hm, hpl⟩ := hin
  unfold maxLen at hm
  have HP := hide hp; have HOK := hide hok
  clear hp hok
  by_cases h0 : m.length = 0
  · have hr : m = [] := List.eq_nil_of_length_eq_zero h0
    subst hr
    clear hpl h0 hm
    go_enter Try.func78, Try.ntmps78
    go_wp2
    go_loop [8] (fun i => i = .int .i64 0) (fun _ => 0)
    case atStart => rfl
    case round =>
      obtain rfl := hrel
      go_wp2
      go_ret
      exact ⟨rfl, Below.refl _ _⟩
  · obtain ⟨b, o, rfl, hg, hc⟩ := hpl.resolve_left h0
    have HC := hide hc; have HG := hide hg
    obtain ⟨n, hn⟩ : ∃ n, n = m.length := ⟨_, rfl⟩
    have HN := hide hn
    rw [← hn] at hm ⊢
    clear hpl hc h0 hn hg
    go_enter Try.func78, Try.ntmps78
    go_wp2
    go_loopw [8] (fun i w' => ∃ k : Nat, k ≤ n ∧ i = .int .i64 k ∧ (∀ t, (h : t < m.length) → t < k → p m[t] = false) ∧ Below w.heap.size w w') (fun i _ => n - (intOf i).toNat)
    case atStart => exact ⟨0, Nat.zero_le _, rfl, fun t _ h => absurd h (Nat.not_lt_zero _), Below.refl _ _⟩
    case round =>
      obtain ⟨k, hk, rfl, hall, hb⟩ := hrel
      have HA := hide hall; have HB := hide hb
      clear hall hb
      by_cases hlt : k < n
      · have hk' : k < m.length := by rw [← HN.out]; exact hlt
        obtain ⟨u, hu, hru⟩ := HC.out k hk'
        have hx := below_cell HB.out HG.out hu
        have HCALL := hide (HP.out m[k] u wr (HOK.out _ (List.getElem_mem hk')) HB.out (inRow_below hru HB.out))
        have HHIT := hide (fun h => idxP_hit (p := p) hk' h HA.out)
        have HST : Hid (p m[k] = false → ∀ t, (h : t < m.length) → t < k + 1 → p m[t] = false) := hide fun h t h1 ht => by
          by_cases e : t = k
          · subst e; exact h
          · exact HA.out t h1 (by omega)
        clear hu hru
        obtain ⟨q, hq⟩ : ∃ q, q = p m[k] := ⟨_, rfl⟩
        rw [← hq] at HCALL HHIT HST
        clear hq
        cases q with
        | true =>
          have HF := hide (HHIT.out rfl); clear HHIT HST
          go_wp2_with (go_at_fn g; refine HCALL.out.mono ?_; rintro e w9 ⟨rfl, hb9⟩; have HB9 := hide (HB.out.trans (hb9.mono HB.out.size)); clear hb9)
          go_ret
          exact ⟨by rw [HF.out]; rfl, HB9.out⟩
        | false =>
          have HS2 := hide (HST.out rfl); clear HST HHIT
          go_wp2_with (go_at_fn g; refine HCALL.out.mono ?_; rintro e w9 ⟨rfl, hb9⟩; have HB9 := hide (HB.out.trans (hb9.mono HB.out.size)); clear hb9)
          go_roundw
          case rel => exact ⟨k + 1, by omega, by go_num, HS2.out, HB9.out⟩
          case measure => simp [intOf]; omega
      · have HY := hide (idxP_miss (p := p) fun t h => HA.out t h (by have := HN.out; omega))
        go_wp2
        go_ret
        exact ⟨by rw [HY.out]; rfl, HB.out⟩
set_option maxHeartbeats 400000 in
theorem containsRows_any (v : Value) (m : List (List Int)) (g : Nat) (cb : Array Value) (ok : List Int → Prop) (p : List Int → Bool) (w : World) (eg : ∀ args w, (callFunc g args).run Try.prog w = .ok (.enter g args) w) (hin : InMat w v m) (hok : ∀ r ∈ m, ok r) (hp : RowPred g cb ok p w) :
    Calls Try.prog 44 #[v, .func (.func g) #[] cb] w fun e w' => e = .returned (.bool (m.any p)) ∧ Below w.heap.size w w' := by
  have HI := hide (idxRows_any v m g cb ok p w eg hin hok hp)
  have HY := hide (idxP_any p m)
  have hlo : -1 ≤ idxP p m ∧ idxP p m ≤ maxLen := by
    obtain ⟨a, c, -, hm, -⟩ := hin
    unfold idxP
    by_cases h : m.findIdx p < m.length
    · rw [if_pos h]; omega
    · rw [if_neg h]; exact ⟨by omega, by unfold maxLen; omega⟩
  unfold maxLen at hlo
  obtain ⟨q, hq⟩ : ∃ q, q = idxP p m := ⟨_, rfl⟩
  rw [← hq] at HI HY hlo
  rw [← HY.out]
  obtain ⟨hlo, hhi⟩ := hlo
  clear hin hok hp hq eg HY
  go_enter Try.func44, Try.ntmps44
  go_wp2_with (go_at_call 78; refine HI.out.mono ?_; rintro e w9 ⟨rfl, hb9⟩; have HB9 := hide hb9; clear hb9)
  go_ret
  exact ⟨rfl, HB9.out⟩
end Go.Proofs.Ytjgkblgilnfpfaa
/-
  slices.Delete at integers, of a slice that the call owns; owned slices cut, and many of their cells written.
-/
namespace Go.Proofs.Ytjgkblgilnfpfaa
open Go.RowKit Go.Shelf

def Try.laysDel_ren : Go.Shelf.Ren := ⟨fun | 23 => 112 | n => n, fun | 22 => 24 | 3 => 3 | 4 => 4 | 0 => 0 | n => n, fun | n => n⟩
theorem Try.laysDel : Go.Proofs.Lays2.n23 Try.prog Try.laysDel_ren := {
  mixed := by kernel_rfl
  f23 := Try.func112.trans (congrArg some (by kernel_rfl))
  t0 := Try.underlying0
  a0 := Try.isAgg0
  z0 := Try.sizeOf0
  v0 := Try.zeroValue0
  t3 := Try.underlying3
  a3 := Try.isAgg3
  z3 := Try.sizeOf3
  v3 := Try.zeroValue3
  t4 := Try.underlying4
  a4 := Try.isAgg4
  z4 := Try.sizeOf4
  v4 := Try.zeroValue4
  t22 := Try.underlying24
  a22 := Try.isAgg24
  z22 := Try.sizeOf24
  v22 := Try.zeroValue24
  i3 := by kernel_rfl }
theorem delete_any (B : Nat) (v : Value) (r : List Int) (y : Nat) (w : World) (hown : w.ownsRow B 3 1 v r.length (ints r)) (hy : y < r.length) :
    Calls Try.prog 112 #[v, .int .i64 y, .int .i64 (y + 1 : Nat)] w fun e w' => ∃ u, e = .returned u ∧ w'.ownsRow B 3 1 u (r.eraseIdx y).length (ints (r.eraseIdx y)) ∧ Below B w w' := by
  have hne : v ≠ .slice none 0 0 := by
    rintro rfl
    rcases hown.2 with ⟨-, h0⟩ | ⟨g, cap, cur, h, _⟩
    · omega
    · cases h
  obtain ⟨g, cap, rfl, hb, hlt, hcap, hm, hl, hH⟩ := Lib.holds_of_ownsRow (enc := Value.int .i64) (zs := r) hown hne
  refine (Any.slices_Delete_int Try.laysDel g 0 cap y (y + 1) r w hH hcap hm (by omega) (by omega)).mono ?_
  rintro e w' ⟨rfl, q, rfl⟩
  refine ⟨_, rfl, ?_, Lib.below_putRow (Below.refl _ _) hb⟩
  have h := Lib.ownsRow_putRow (enc := Value.int .i64) (zs := r) (q := q) (k := r.length - 1) (ys := r.take y ++ r.drop (y + 1) ++ List.replicate (y + 1 - y) 0) hown (by simp; omega) (by omega)
  have e1 : (r.take y ++ r.drop (y + 1) ++ List.replicate (y + 1 - y) (0 : Int)).take (r.length - 1) = r.eraseIdx y := by
    rw [List.eraseIdx_eq_take_drop_succ, List.take_append_of_le_length (by simp; omega), List.take_of_length_le (by simp; omega)]
  rw [e1] at h
  rw [show (r.eraseIdx y).length = r.length - 1 from List.length_eraseIdx_of_lt hy, show r.length - (y + 1 - y) = r.length - 1 by omega]
  exact h

/-- The first k elements of an owned slice. -/
theorem own_cut {w : World} {base e g n c k : Nat} {xs : List Value} (h : w.ownsRow base e 1 (.slice (some ⟨g, 0, none⟩) n c) n xs) (hk : k ≤ n) : w.ownsRow base e 1 (.slice (some ⟨g, 0, none⟩) k c) k (xs.take k) := by
  rcases h.2 with ⟨e0, _⟩ | ⟨g', cap', cur, e0, hb, hg, hn, hm, hs, ht⟩
  · cases e0
  · cases e0
    refine ⟨by rw [List.length_take]; have := h.1; omega, .inr ⟨_, _, cur, rfl, hb, hg, by omega, hm, hs, ?_⟩⟩
    rw [← ht, List.take_take]; congr 1; omega
/-- Cells of an owned slice written one behind the other. -/
theorem own_setCells {base e g n c : Nat} : ∀ (zs : List Value) (i : Nat) (w : World) (xs : List Value), w.ownsRow base e 1 (.slice (some ⟨g, 0, none⟩) n c) n xs →
    ∃ ys, (w.setCells g i zs).ownsRow base e 1 (.slice (some ⟨g, 0, none⟩) n c) n ys ∧ ys.take i = xs.take i ∧ w.grownBy (w.setCells g i zs) (some g)
  | [], i, w, xs, h => ⟨xs, h, rfl, rfl, rfl, rfl, Nat.le_refl _, fun _ _ _ => rfl⟩
  | z :: zs, i, w, xs, h => by
    obtain ⟨h1, h2⟩ := h.stored i z
    obtain ⟨ys, g1, g2, g3⟩ := own_setCells zs (i + 1) _ _ h1
    refine ⟨ys, g1, ?_, grown_trans h2 g3⟩
    have : (ys.take (i + 1)).take i = ((xs.set i z).take (i + 1)).take i := by rw [g2]
    rw [List.take_take, List.take_take, Nat.min_eq_left (by omega), List.take_set_of_le (by omega)] at this
    exact this
end Go.Proofs.Ytjgkblgilnfpfaa
/-
  slices.DeleteFunc over rows that the call owns; the predicate may make memory.
-/
namespace Go.Proofs.Ytjgkblgilnfpfaa
open Go.RowKit Go.Shelf

/-- A list of rows that lie from lo on. -/
def MatT (w : World) (lo : Nat) (v : Value) (m : List (List Int)) : Prop :=
  ∃ vs : List Value, w.ownsRow lo 24 1 v m.length vs ∧ ∀ i, (h : i < m.length) → w.ownsRow lo 3 1 (vs.getD i undef) m[i].length (ints m[i])
theorem matT_own {w : World} {lo hi : Nat} {v : Value} {m : List (List Int)} (h : OwnMat w lo hi v m) : MatT w lo v m := by
  obtain ⟨vs, h1, -, h3, -⟩ := h
  exact ⟨vs, h1, fun i hi => (h3 i hi).1⟩
theorem inMat_matT {w : World} {lo : Nat} {v : Value} {m : List (List Int)} (h : MatT w lo v m) : InMat w v m := by
  obtain ⟨vs, ho, hr⟩ := h
  rcases ho.2 with ⟨rfl, h0⟩ | ⟨g, cap, cur, rfl, hbg, hg, hc, hm, _⟩
  · exact ⟨none, 0, by rw [h0], by omega, .inl h0⟩
  · refine ⟨_, _, rfl, by omega, .inr ⟨g, 0, rfl, (Array.getElem?_eq_some_iff.1 hg).1, fun i hi => ⟨vs.getD i undef, ?_, inRow_own (hr i hi)⟩⟩⟩
    rw [Nat.zero_add]; exact cell_held ho hi
theorem matT_below {w w' : World} {lo : Nat} {v : Value} {m : List (List Int)} (h : MatT w lo v m) (hb : Below w.heap.size w w') : MatT w' lo v m := by
  obtain ⟨vs, h1, h2⟩ := h
  exact ⟨vs, own_below h1 hb, fun i hi => own_below (h2 i hi) hb⟩
theorem matT_base {w : World} {lo lo' : Nat} {v : Value} {m : List (List Int)} (h : MatT w lo v m) (hl : lo' ≤ lo) : MatT w lo' v m := by
  obtain ⟨vs, h1, h2⟩ := h
  exact ⟨vs, own_base h1 hl, fun i hi => own_base (h2 i hi) hl⟩
theorem matT_kept {w w' : World} {lo B e n : Nat} {v u : Value} {m : List (List Int)} {xs : List Value} (h : MatT w lo v m) (hu : w.ownsRow B e 1 u n xs) (hg : w.grownBy w' u.ownBlock) (h1 : 24 ≠ e) (h2 : 3 ≠ e) : MatT w' lo v m := by
  obtain ⟨vs, g1, g2⟩ := h
  exact ⟨vs, g1.kept hg (own_types g1 hu h1), fun i hi => (g2 i hi).kept hg (own_types (g2 i hi) hu h2)⟩

/-- The places of the first j rows at which p does not hold. -/
def kept (p : List Int → Bool) (m : List (List Int)) (j : Nat) : List Nat := (List.range j).filter fun t => !p (m.getD t [])
theorem kept_yes {p : List Int → Bool} {m : List (List Int)} {j : Nat} (h : p (m.getD j []) = false) : kept p m (j + 1) = kept p m j ++ [j] := by
  unfold kept
  rw [List.range_succ, List.filter_append]; simp only [List.filter_cons, List.filter_nil, h]; rfl
theorem kept_no {p : List Int → Bool} {m : List (List Int)} {j : Nat} (h : p (m.getD j []) = true) : kept p m (j + 1) = kept p m j := by
  unfold kept
  rw [List.range_succ, List.filter_append]; simp only [List.filter_cons, List.filter_nil, h]; simp
theorem kept_len (p : List Int → Bool) (m : List (List Int)) (j : Nat) : (kept p m j).length ≤ j := by
  have := List.length_filter_le (fun t => !p (m.getD t [])) (List.range j)
  simpa [kept] using this
theorem kept_lt {p : List Int → Bool} {m : List (List Int)} {j t : Nat} (h : t ∈ kept p m j) : t < j := by
  have := (List.mem_filter.1 h).1; simpa using this
theorem kept_all {p : List Int → Bool} {m : List (List Int)} : ∀ {j : Nat}, (∀ t, t < j → p (m.getD t []) = false) → kept p m j = List.range j
  | 0, _ => rfl
  | j + 1, h => by rw [kept_yes (h j (Nat.lt_succ_self _)), kept_all fun t ht => h t (by omega), List.range_succ]
theorem map_range_getD {α : Type} (d : α) (l : List α) (n : Nat) (h : n ≤ l.length) : (List.range n).map (fun t => l.getD t d) = l.take n := by
  apply List.ext_getElem
  · simp; omega
  · intro i h1 h2
    simp at h1
    simp [List.getElem?_eq_getElem (show i < l.length by omega)]
theorem kept_map (p : List Int → Bool) (m : List (List Int)) : (kept p m m.length).map (fun t => m.getD t []) = m.filter fun x => !p x := by
  unfold kept
  have h : m = (List.range m.length).map fun t => m.getD t [] := by rw [map_range_getD _ _ _ (Nat.le_refl _)]; simp
  conv => rhs; rw [h, List.filter_map]
  rfl
theorem idxP_spec (p : List Int → Bool) (m : List (List Int)) : (idxP p m = -1 ∧ ∀ t, t < m.length → p (m.getD t []) = false) ∨ ∃ k : Nat, k < m.length ∧ idxP p m = k ∧ p (m.getD k []) = true ∧ ∀ t, t < k → p (m.getD t []) = false := by
  have hg : ∀ t, (ht : t < m.length) → m.getD t [] = m[t] := fun t ht => by rw [List.getD_eq_getElem?_getD, List.getElem?_eq_getElem ht]; rfl
  by_cases h : m.findIdx p < m.length
  · refine .inr ⟨_, h, by rw [idxP, if_pos h], ?_, fun t ht => ?_⟩
    · rw [hg _ h]; exact List.findIdx_getElem (w := h)
    · rw [hg _ (by omega)]
      have := List.not_of_lt_findIdx ht
      simpa using this
  · refine .inl ⟨by rw [idxP, if_neg h], fun t ht => ?_⟩
    rw [hg _ ht]
    cases hp : p m[t] with
    | false => rfl
    | true => exact absurd (List.findIdx_lt_length_of_exists ⟨_, List.getElem_mem ht, hp⟩) h
/-- What the search finds of rows that are struck and kept. -/
theorem delRows_len (p : List Int → Bool) (m : List (List Int)) : (m.filter fun x => !p x).length = (kept p m m.length).length := by rw [← kept_map, List.length_map]

theorem zeroInts_run (w : World) : (zeroValue 24).run Try.prog w = .ok (.slice none 0 0) w := Try.zeroValue24 w

/-- Rows that lie from lo on; below, nothing has turned. -/
def RowsRes (lo : Nat) (m : List (List Int)) (w : World) (e : Ending) (w' : World) : Prop := ∃ u, e = .returned u ∧ MatT w' lo u m ∧ Below lo w w'
set_option maxHeartbeats 1000000 in
theorem delRows_no (v : Value) (m : List (List Int)) (g : Nat) (cb : Array Value) (ok : List Int → Prop) (p : List Int → Bool) (lo : Nat) (w : World) (eg : ∀ args w, (callFunc g args).run Try.prog w = .ok (.enter g args) w) (hin : MatT w lo v m) (hlo : lo ≤ w.heap.size) (hok : ∀ r ∈ m, ok r) (hp : RowPred g cb ok p w)
    (hno : idxP p m = -1) (hall : ∀ t, t < m.length → p (m.getD t []) = false) :
    Calls Try.prog 72 #[v, .func (.func g) #[] cb] w (RowsRes lo (m.filter fun x => !p x) w) := by
  have HI := hide (idxRows_any v m g cb ok p w eg (inMat_matT hin) hok hp)
  have HF : Hid ((m.filter fun x => !p x) = m) := hide (by rw [← kept_map, kept_all hall, map_range_getD _ _ _ (Nat.le_refl _)]; simp)
  have HM := hide hin
  have hv : ∃ a n c, v = .slice a n c := by obtain ⟨a, c, rfl, -⟩ := inMat_matT hin; exact ⟨a, _, c, rfl⟩
  obtain ⟨a, n, c, rfl⟩ := hv
  rw [hno] at HI
  clear hin hok hp hno hall eg
  go_enter Try.func72, Try.ntmps72
  go_wp2_with (go_at_call 78; refine HI.out.mono ?_; rintro e w9 ⟨rfl, hb9⟩; have HB9 := hide hb9; clear hb9)
  go_ret
  exact ⟨_, rfl, by rw [HF.out]; exact matT_below HM.out HB9.out, ⟨HB9.out.os, HB9.out.tape, HB9.out.output, HB9.out.size, fun k hk => HB9.out.block k (by omega)⟩⟩
set_option maxRecDepth 100000 in
set_option maxHeartbeats 4000000 in
theorem delRows_yes (v : Value) (m : List (List Int)) (g : Nat) (cb : Array Value) (ok : List Int → Prop) (p : List Int → Bool) (lo : Nat) (W0 w : World) (eg : ∀ args w, (callFunc g args).run Try.prog w = .ok (.enter g args) w) (hin : MatT w lo v m) (hW : W0.heap.size ≤ lo) (hbW : Below W0.heap.size W0 w) (hok : ∀ r ∈ m, ok r) (hp : RowPred g cb ok p W0)
    (k : Nat) (hk : k < m.length) (hyes : idxP p m = k) (hat : p (m.getD k []) = true) (hall : ∀ t, t < k → p (m.getD t []) = false) :
    Calls Try.prog 72 #[v, .func (.func g) #[] cb] w (RowsRes lo (m.filter fun x => !p x) w) := by
  have HI := hide (idxRows_any v m g cb ok p w eg (inMat_matT hin) hok (rowPred_mono hp hbW))
  rw [hyes] at HI
  obtain ⟨vs, hv, hrows⟩ := hin
  obtain ⟨gb, cap, rfl, hbg, hgl, hcap, hmax, -, -⟩ := own_some hv (by omega)
  have HV := hide hv; have HR := hide hrows; have HP := hide hp; have HOK := hide hok
  have HLEN := hide (delRows_len p m)
  have HMAP := hide (kept_map p m)
  have hvl : vs.length = m.length := by have := hv.1; omega
  have hK : kept p m (k + 1) = List.range k := by rw [kept_no hat, kept_all hall]
  have HK0 : Hid ((kept p m (k + 1)).length = k ∧ vs.take k = (kept p m (k + 1)).map fun t => vs.getD t undef) := hide (by
    rw [hK]; exact ⟨by simp, (map_range_getD _ _ _ (by omega)).symm⟩)
  have HBW := hide hbW
  obtain ⟨n, hn⟩ : ∃ n, n = m.length := ⟨_, rfl⟩
  have HN := hide hn
  rw [← hn] at HI HV hk hvl hcap ⊢
  unfold maxLen at hmax
  have HBG := hide hbg
  have hne1 : ((k : Int) == -1) = false := beq_eq_false_iff_ne.2 (by omega)
  clear hv hrows hp hok hyes hat hall hK hn hbW
  go_enter Try.func72, Try.ntmps72
  go_wp2_with (go_at_call 78; refine HI.out.mono ?_; rintro e w9 ⟨rfl, hb9⟩; have HB9 := hide hb9; clear hb9)
  have HL9 : Hid (Below lo w w9) := hide ⟨HB9.out.os, HB9.out.tape, HB9.out.output, HB9.out.size, fun k hk => HB9.out.block k (by omega)⟩
  go_loopw [5, 6, 7] (fun s5 s6 _ w' => ∃ (j : Nat) (ys : List Value), s6 = .int .i64 j ∧ s5 = .int .i64 (kept p m j).length ∧ j ≤ n ∧ (kept p m j).length < j ∧ w'.ownsRow lo 24 1 (.slice (some ⟨gb, 0, none⟩) n cap) n ys ∧ ys.take (kept p m j).length = ((kept p m j).map fun t => vs.getD t undef) ∧ (∀ t, j ≤ t → t < n → ys.getD t undef = vs.getD t undef) ∧
    (∀ t, (h : t < m.length) → w'.ownsRow lo 3 1 (vs.getD t undef) m[t].length (ints m[t])) ∧ Below lo w w') (fun _ s6 _ _ => n - (intOf s6).toNat)
  case atStart => exact ⟨k + 1, vs, by go_num, by rw [HK0.out.1], by omega, by rw [HK0.out.1]; omega, own_below HV.out HB9.out, by rw [HK0.out.1]; exact HK0.out.2, fun _ _ _ => rfl, fun t h => own_below (HR.out t h) HB9.out, HL9.out⟩
  case round =>
    clear HL9 HB9 HK0
    obtain ⟨j, ys, rfl, rfl, hj, hij, hown, htake, hrest, hrw, hb⟩ := hrel
    have HO := hide hown; have HT := hide htake; have HRE := hide hrest; have HRW := hide hrw; have HB := hide hb
    have HKY := hide fun h => kept_yes (p := p) (m := m) (j := j) h
    have HKN := hide fun h => kept_no (p := p) (m := m) (j := j) h
    obtain ⟨i, hi⟩ : ∃ i, i = (kept p m j).length := ⟨_, rfl⟩
    have HII := hide hi
    rw [← hi] at HT hij ⊢
    clear hown htake hrest hrw hb hi
    by_cases hlt : j < n
    · have hjm : j < m.length := by rw [← HN.out]; exact hlt
      have hltI : (j : Int) < n := by omega
      have hsz := HB.out.size
      have hx := cell_held HO.out hlt
      rw [HRE.out j (Nat.le_refl _) hlt] at hx
      have HROWj := hide (HRW.out j hjm)
      obtain ⟨a, c, hu⟩ := own_slice HROWj.out
      have hmj : m.getD j [] = m[j] := by rw [List.getD_eq_getElem?_getD, List.getElem?_eq_getElem hjm]; rfl
      have HBO : Hid (Below W0.heap.size W0 wr) := hide (HBW.out.trans (HB.out.mono hW))
      have HCALL := hide (HP.out m[j] (vs.getD j undef) wr (HOK.out _ (List.getElem_mem hjm)) HBO.out (inRow_own HROWj.out))
      rw [hmj] at HKY HKN
      have HMJ : Hid (m[j].length = m[j].length) := hide rfl
      obtain ⟨u, hue⟩ : ∃ u, u = vs.getD j undef := ⟨_, rfl⟩
      have HU := hide hue
      rw [← hue] at hx HCALL hu
      obtain ⟨q, hq⟩ : ∃ q, q = p m[j] := ⟨_, rfl⟩
      rw [← hq] at HKY HKN HCALL
      obtain ⟨L, hL⟩ : ∃ L, L = m[j].length := ⟨_, rfl⟩
      rw [← hL] at hu
      clear hq hmj hue hL HMJ
      subst hu
      cases q with
      | true =>
        have HK2 := hide (HKN.out rfl)
        clear HKY HKN
        go_wp2_with (go_at_fn g; refine HCALL.out.mono ?_; rintro e w9 ⟨rfl, hb9⟩; have HB9 := hide hb9; clear hb9)
        go_roundw
        case rel =>
          refine ⟨j + 1, ys, by go_num, by rw [HK2.out, ← HII.out], by omega, by rw [HK2.out, ← HII.out]; omega, own_below HO.out HB9.out, by rw [HK2.out, ← HII.out]; exact HT.out, fun t h1 h2 => HRE.out t (by omega) h2, fun t h => own_below (HRW.out t h) HB9.out, ?_⟩
          exact HB.out.trans (HB9.out.mono (by omega))
        case measure => simp [intOf]; omega
      | false =>
        have HK2 := hide (HKY.out rfl)
        clear HKY HKN
        go_wp2_with (go_at_fn g; refine HCALL.out.mono ?_; rintro e w9 ⟨rfl, hb9⟩; have HB9 := hide hb9; clear hb9; have HO9 := hide (own_below HO.out HB9.out); have hin' : i < n := (by omega); have hc9 := cell_held HO9.out hin'; have hf9 := HO9.out.frozenAt i; have HS := hide (HO9.out.stored i (.slice a L c)))
        go_roundw
        case rel =>
          have hyl : ys.length = n := by have := HO.out.1; omega
          have hb9 : Below lo w w9 := HB.out.trans (HB9.out.mono (by omega))
          refine ⟨j + 1, ys.set i (.slice a L c), by go_num, by rw [HK2.out, List.length_append, ← HII.out]; go_num, by omega, by rw [HK2.out, List.length_append, ← HII.out]; simp; omega, HS.out.1, ?_, fun t h1 h2 => ?_, fun t h => ?_, hb9.setCell (p := ⟨gb, i, none⟩) HBG.out _⟩
          · rw [HK2.out, List.length_append, ← HII.out, List.map_append, ← HT.out, List.map_cons, List.map_nil, ← HU.out]
            simp only [List.length_cons, List.length_nil]
            rw [Nat.zero_add, List.take_succ_eq_append_getElem (by rw [List.length_set]; omega), List.take_set_of_le (Nat.le_refl _), List.getElem_set_self]
          · rw [List.getD_eq_getElem?_getD, List.getElem?_set_ne (by omega), ← List.getD_eq_getElem?_getD]
            exact HRE.out t (by omega) h2
          · have h0 := own_below (HRW.out t h) HB9.out
            exact h0.kept HS.out.2 (own_types h0 HO9.out (by decide))
        case measure => simp [intOf]; omega
    · obtain rfl : j = n := by omega
      have hcl : ∀ ty, (Builtin.clear_ #[23] ty #[.slice (some ⟨gb, i, none⟩) (j - i) (cap - i)]).run Try.prog wr = .ok (.tuple #[]) (wr.setCells gb i (List.replicate (j - i) (.slice none 0 0))) :=
        fun ty => Lib.run_clear_slice wr _ _ ty _ Try.underlying23 zeroInts_run rfl rfl gb i _ _ (by omega) (fun t ht => by rw [cell_held HO.out (show i + t < j by omega)]; rfl) (fun t ht => HO.out.frozenAt _)
      have HM2 := hide (own_setCells (List.replicate (j - i) (Value.slice none 0 0)) i wr ys HO.out)
      obtain ⟨w2, hw2⟩ : ∃ w2, w2 = wr.setCells gb i (List.replicate (j - i) (Value.slice none 0 0)) := ⟨_, rfl⟩
      rw [← hw2] at HM2 hcl
      clear hw2
      go_wp2
      go_ret
      obtain ⟨zs, h1, h2, h3⟩ := HM2.out
      have hc := own_cut h1 (show i ≤ j by omega)
      rw [h2, HT.out] at hc
      have hKm : kept p m j = kept p m m.length := by rw [← HN.out]
      refine ⟨_, rfl, ⟨(kept p m j).map fun t => vs.getD t undef, ?_, fun t ht => ?_⟩, ?_⟩
      · rw [HLEN.out, ← hKm, ← HII.out]; exact hc
      · have ht' : t < (kept p m j).length := by rw [hKm, ← HLEN.out]; exact ht
        have hlt' := kept_lt (List.getElem_mem ht')
        have hm : (kept p m j)[t] < m.length := by rw [← HN.out]; exact hlt'
        have e1 : ((kept p m j).map fun t => vs.getD t undef).getD t undef = vs.getD (kept p m j)[t] undef := by
          rw [List.getD_eq_getElem?_getD, List.getElem?_eq_getElem (by rw [List.length_map]; exact ht'), Option.getD_some, List.getElem_map]
        have e2 : (m.filter fun x => !p x)[t] = m[(kept p m j)[t]] := by
          have h0 : ((kept p m m.length).map (fun t => m.getD t []))[t]'(by rw [HMAP.out]; exact ht) = (m.filter fun x => !p x)[t] := by
            congr 1
          rw [← h0, List.getElem_map]
          simp only [← hKm]
          rw [List.getD_eq_getElem?_getD, List.getElem?_eq_getElem hm]; rfl
        rw [e1, e2]
        have h0 := HRW.out _ hm
        exact h0.kept h3 (own_types h0 HO.out (by decide))
      · exact ⟨h3.os.trans HB.out.os, h3.tape.trans HB.out.tape, h3.output.trans HB.out.output, Nat.le_trans HB.out.size h3.size, fun t ht => by
          have := HBG.out
          rw [h3.block t (by have := HB.out.size; omega) (by simp; omega)]; exact HB.out.block t ht⟩
theorem delRows_any (v : Value) (m : List (List Int)) (g : Nat) (cb : Array Value) (ok : List Int → Prop) (p : List Int → Bool) (lo : Nat) (W0 w : World) (eg : ∀ args w, (callFunc g args).run Try.prog w = .ok (.enter g args) w) (hin : MatT w lo v m) (hlo : lo ≤ w.heap.size) (hW : W0.heap.size ≤ lo) (hbW : Below W0.heap.size W0 w) (hok : ∀ r ∈ m, ok r) (hp : RowPred g cb ok p W0) :
    Calls Try.prog 72 #[v, .func (.func g) #[] cb] w (RowsRes lo (m.filter fun x => !p x) w) := by
  rcases idxP_spec p m with ⟨h1, h2⟩ | ⟨k, hk, h1, h2, h3⟩
  · exact delRows_no v m g cb ok p lo w eg hin hlo hok (rowPred_mono hp hbW) h1 h2
  · exact delRows_yes v m g cb ok p lo W0 w eg hin hW hbW hok hp k hk h1 h2 h3
end Go.Proofs.Ytjgkblgilnfpfaa
/-
  append to a slice that the call owns, and where the new one lies; a row of any length appended.
-/
namespace Go.Proofs.Ytjgkblgilnfpfaa
open Go.RowKit

/-- 'v = append(v, y)', and the new slice lies where the old one did, or in a block that was not there. -/
theorem wpList_pushl {P : Program} {ops : Array Oper} {rest : List Oper} {o : Oper} {a : Act} {Q : Exit → Act → World → Prop} {W : World} {base n bytes : Nat} {E T : TypeId} {v : Value} {xs : List Value}
    (hown : W.ownsRow base E 1 v n xs) (y z : Value) (hgd : o.guard = none) (s x : Operand)
    (ho : o.op = .call { callee := .builtin .append, args := #[s, x], argTypes := #[T, T] })
    (ht : P.underlying T = some (.slice E)) (hinfo : (P.info? E).map (fun i => (i.zero, i.size, i.bytes)) = some (some z, 1, bytes)) (hz : z.cells.size = 1) (hby : bytes ≤ 32)
    (hs : a.eval s = v) (hx : a.eval x = .slice (some ⟨W.heap.size, 0, none⟩) 1 1) (hy : y.oneCell' = true) (hn : n < 4000000) (hbase : base ≤ W.heap.size)
    (h : ∀ g cap w', w'.ownsRow base E 1 (.slice (some ⟨g, 0, none⟩) (n + 1) cap) (n + 1) (xs ++ [y]) → Below base W w' → W.grownBy w' v.ownBlock → (v.ownBlock = some g ∨ W.heap.size ≤ g) → wpList P ops Q rest (a.put o.dst (.slice (some ⟨g, 0, none⟩) (n + 1) cap)) w') :
    wpList P ops Q (o :: rest) a (W.alloc (.cells #[y] E)) := by
  obtain ⟨i0, hi, hz0, hz1, hz2⟩ := info_parts hinfo
  refine wpList_append_lies _ hgd s x T ho base E i0 z 1 bytes ht hi hz0 hz1 hz2 hz (by decide) v n xs hs (hown.alloc _) ⟨W.heap.size, 0, none⟩ 1 1 [y] hx rfl (new_cell W y E) (by simpa using hy)
    (by decide) (by unfold maxLen; omega) (by have : (n + 1) * bytes ≤ 4000000 * 32 := Nat.mul_le_mul (by omega) hby; omega) (by simp; omega) _ rfl ?_
  intro g cap w' hown' hg hat _
  have hlt := hown.lt
  have hal : Below base W (W.alloc (.cells #[y] E)) := (Below.refl _ _).alloc hbase _
  refine h g cap w' hown' (hal.grown hg (by simp; omega) (fun k hk => (hlt k hk).1)) ?_ ?_
  · exact grown_trans (World.grownBy_alloc W _ _) hg
  · rcases hat with h1 | h1
    · exact .inl h1
    · right; rw [h1, World.size_alloc]; omega

/-- 'append(v, u...)', u a slice of integers that some call has made, of any length. -/
theorem wpList_appendOwn {P : Program} {ops : Array Oper} {rest : List Oper} {o : Oper} {a : Act} {Q : Exit → Act → World → Prop} {W : World} {base n bytes : Nat} {T E2 B2 : TypeId} {v u : Value} {xs : List Value} (d : Tmp) (_hd : o.dst = some d)
    (hown : W.ownsRow base E2 1 v n xs) (r : List Int) (hu : W.ownsRow B2 E2 1 u r.length (ints r)) (z : Value) (hgd : o.guard = none) (s x : Operand)
    (ho : o.op = .call { callee := .builtin .append, args := #[s, x], argTypes := #[T, T] })
    (ht : P.underlying T = some (.slice E2)) (hinfo : (P.info? E2).map (fun i => (i.zero, i.size, i.bytes)) = some (some z, 1, bytes)) (hz : z.cells.size = 1) (hby : bytes ≤ 32)
    (hs : a.eval s = v) (hx : a.eval x = u) (hn : n + r.length < 4000000) (hbase : base ≤ W.heap.size)
    (h : ∀ v' w', w'.ownsRow base E2 1 v' (n + r.length) (xs ++ ints r) → Below base W w' → W.grownBy w' v.ownBlock → wpList P ops Q rest (a.put o.dst v') w') :
    wpList P ops Q (o :: rest) a W := by
  rcases hu.2 with ⟨rfl, h0⟩ | ⟨g, cap, cur, rfl, hbg, hg, hc, hm, _⟩
  · obtain rfl : r = [] := List.eq_nil_of_length_eq_zero h0
    obtain ⟨i0, hi, -⟩ := info_parts hinfo
    refine wpList_append_own_none hgd s x T ho base E2 i0 1 ht hi v n xs hs hown hx ?_
    refine h v W ?_ (Below.refl _ _) ⟨rfl, rfl, rfl, Nat.le_refl _, fun _ _ _ => rfl⟩
    simpa [ints] using hown
  · exact wpList_appendRow d _hd hown r g 0 cap z hgd s x ho ht hinfo hz hby hs hx (fun j hj => by rw [Nat.zero_add, hu.cellAt j (by omega), ints_at r j hj]) hn hbase h

theorem ownMat_grown {w w' : World} {lo hi : Nat} {v : Value} {m : List (List Int)} {row : Option Nat} (h : OwnMat w lo hi v m) (hg : w.grownBy w' row) (hne : ∀ q, row = some q → q < lo ∨ hi ≤ q) : OwnMat w' lo hi v m := by
  cases row with
  | none => exact ownMat_within h (within_grown (lo := hi) (hi := hi) hg fun k e => by cases e) (.inl (Nat.le_refl _))
  | some q => exact ownMat_within h (within_grown (lo := q) (hi := q + 1) hg fun k e => by cases e; omega) (by have := hne q rfl; omega)
end Go.Proofs.Ytjgkblgilnfpfaa
/-
  slices.Collect over slices.Values: a copy of the list, in memory of the call's own.
-/
namespace Go.Proofs.Ytjgkblgilnfpfaa
open Go.RowKit Go.Shelf
attribute [local go_sem] Oper.semAt_some

set_option maxRecDepth 100000 in
set_option maxHeartbeats 2000000 in
/-- The iterator of slices.Values: the elements in their order, for every body that keeps what lay in w. -/
theorem valuesEach_in (F : Fence) (n : Nat) (hF : F.fn 139) (hro : F.round = none) (hn : 1 ≤ n) (l Bs : Nat) (v : Value) (zs : List Int) (w W : World) (hin : InRow w v zs) (hW : Below w.heap.size w W) (J Jx : List Int → World → Prop)
    (hY : ∀ pre x W, J pre W → pre.length < zs.length → YieldAt F (n - 1) Try.prog l #[.int .i64 x] W fun e W' =>
      (e = .returned (.bool true) ∧ J (pre ++ [x]) W' ∧ Below w.heap.size W W') ∨ (e = .returned (.bool false) ∧ Jx (pre ++ [x]) W'))
    (hBs : W.cell? ⟨Bs, 0, none⟩ = some v) (h0 : J [] W) :
    CallsIn F n Try.prog 139 #[.func (.yield l) #[] #[], .pointer (some ⟨Bs, 0, none⟩)] W fun e W' => (∃ u, e = .returned u) ∧ ((∃ ys, ys = zs ∧ J ys W') ∨ ∃ pre, pre <+: zs ∧ Jx pre W') := by
  obtain ⟨a, c, rfl, hm, hp⟩ := hin
  unfold maxLen at hm
  have HP := hide fun h : zs.length ≠ 0 => hp.resolve_left h
  have HY := hide hY
  obtain ⟨L, hL⟩ : ∃ L, L = zs.length := ⟨_, rfl⟩
  have HL := hide hL
  rw [← hL] at hm hBs
  clear hp hL hY
  refine callsIn_of_wp Try.func139 rfl hF ?_ hro
  simp only [Try.ntmps139, List.size_toArray, List.length_cons, List.length_nil, Nat.reduceAdd, Nat.reduceSub, Array.replicate_succ, Array.replicate_zero, List.push_toArray, List.append_toArray, List.nil_append, List.cons_append]
  gi_wp2
  gi_loopw [7] (fun i wr => ∃ k : Nat, k ≤ L ∧ i = .int .i64 k ∧ J (zs.take k) wr ∧ Below w.heap.size w wr) (fun i _ => L - (intOf i).toNat)
  case atStart => exact ⟨0, Nat.zero_le _, rfl, h0, hW⟩
  case round =>
    obtain ⟨k, hk, rfl, hJ, hB⟩ := hrel
    have HB := hide hB
    clear hB
    by_cases hlt : k < L
    · obtain ⟨g, o, rfl, hg, hc⟩ := HP.out (by have := HL.out; omega)
      have hk' : k < zs.length := by rw [← HL.out]; exact hlt
      have hx := below_cell HB.out hg (hc k hk')
      have HT := hide (show zs.take (k + 1) = zs.take k ++ [zs[k]] from List.take_succ_eq_append_getElem hk')
      obtain ⟨x, hxx⟩ : ∃ x, x = zs[k] := ⟨_, rfl⟩
      rw [← hxx] at hx HT
      clear hxx hc
      obtain ⟨fn, tmps, assign, body, hy, hR⟩ := HY.out _ x wr hJ (by rw [List.length_take]; omega)
      gi_wp2
      refine hR.mono ?_
      rintro e W3 (⟨rfl, hJ3, hk3⟩ | ⟨rfl, hJx3⟩)
      · have HB3 := hide (HB.out.trans hk3)
        have HJ3 := hide (show J (zs.take (k + 1)) W3 by rw [HT.out]; exact hJ3)
        clear hJ3 hk3
        gi_wp2
        go_roundw
        case rel => exact ⟨k + 1, by omega, by go_num, HJ3.out, HB3.out⟩
        case measure => simp [intOf]; omega
      · have HJ3 := hide (show Jx (zs.take (k + 1)) W3 by rw [HT.out]; exact hJx3)
        clear hJx3
        gi_wp2
        refine bodyPost_ret (results_none rfl _ _ _) rfl ?_
        exact ⟨⟨_, rfl⟩, .inr ⟨_, List.take_prefix _ _, HJ3.out⟩⟩
    · have HE : Hid (zs.take k = zs) := hide (List.take_of_length_le (by have := HL.out; omega))
      rw [HE.out] at hJ
      gi_wp2
      go_end0
      exact ⟨⟨_, rfl⟩, .inl ⟨_, rfl, hJ⟩⟩

set_option maxRecDepth 100000 in
set_option maxHeartbeats 2000000 in
theorem appendSeq_in (F : Fence) (n : Nat) (hA : F.fn 141) (hV : F.fn 139) (hro : F.round = none) (hn : 3 ≤ n) (Bs : Nat) (v : Value) (zs : List Int) (w : World) (hin : InRow w v zs) (hlen : zs.length ≤ 2000000) (hB : Bs < w.heap.size) (hc : w.cell? ⟨Bs, 0, none⟩ = some v) :
    CallsIn F n Try.prog 141 #[.slice none 0 0, .func (.func 139) #[] #[.pointer (some ⟨Bs, 0, none⟩)]] w (IntsRes zs w) := by
  have h1 : 1 ≤ n := by omega
  have HI := hide hin
  obtain ⟨i0, hi, hz0, hz1, hz2⟩ := info_parts Try.infoInt
  clear hin
  refine callsIn_of_wp_marks Try.func141 rfl hA ?_ hro
  simp only [Try.ntmps141, List.size_toArray, List.length_cons, List.length_nil, Nat.reduceAdd, Nat.reduceSub, Array.replicate_succ, Array.replicate_zero, List.push_toArray, List.append_toArray, List.nil_append, List.cons_append]
  gi_wp2
  have bO := Boxed.new w 24 (.slice none 0 0)
  have hB0 : Below w.heap.size w (w.alloc (.cells #[.slice none 0 0] 24)) := (Below.refl _ w).alloc (Nat.le_refl _) _
  have hI0 := inRow_below HI.out hB0
  have hc0 := below_cell hB0 hB hc
  refine wpIn_rangeFunc_ownG hro h1 (gf := 139) (lb := #[.pointer (some ⟨Bs, 0, none⟩)]) rfl hV (enters_of Try.func139 (by kernel_rfl) rfl)
    (encs := fun x : Int => #[Value.int .i64 x]) (Kp := Below w.heap.size) (S := fun ys => ys = zs) (Sp := fun pre => pre <+: zs) (N := zs.length) (w0 := w.alloc (.cells #[.slice none 0 0] 24))
    (fun l J Jx W hW _ _ hY h0 => valuesEach_in F (n - 1) hV hro (by omega) l Bs v zs w W HI.out (hB0.trans (hW.mono hB0.size)) J Jx hY (below_cell hW (Nat.lt_of_lt_of_le hB hB0.size) hc0) h0) belowK_t (belowK_b (by simp)) (Below.refl _ _) (fun _ => rfl)
    (fun pre W => (∃ u, Boxed W w.heap.size 24 u ∧ W.ownsRow w.heap.size 3 1 u pre.length (ints pre) ∧ True) ∧ Below w.heap.size w W)
    (fun _ _ _ => False)
    (OwnFrom.and (Own.from (holdsRow_own w.heap.size w.heap.size 24 3 1 (fun pre : List Int => pre.length) (fun pre => ints pre) (fun _ _ => True)) _) (ownFrom_below (Nat.le_refl _) (by simp)))
    (fun _ _ _ _ _ hs _ _ => hs)
    ⟨⟨_, bO, World.ownsRow_nil _ _ _ _, trivial⟩, hB0⟩
    (fun x => { tmps := #[.slice none 0 0, .func (.func 139) #[] #[.pointer (some ⟨Bs, 0, none⟩)], .pointer (some ⟨w.heap.size, 0, none⟩), undef, .slice none 0 0, .int .i64 x, .func (.func 139) #[] #[.pointer (some ⟨Bs, 0, none⟩)], .int .i64 x, undef, undef, undef, undef, undef], defers := [] }) ?assign ?body ?done ?stop
  case assign =>
    intro l x W K hK
    gi_wp2
    exact hK
  case body =>
    rintro l pre x W ⟨⟨u, hv, hrow, -⟩, hBW⟩ hlt
    have hcu := hv.cell
    gi_wp2_with (gi_at_builtin; refine wpListIn_append_own _ rfl _ _ 24 rfl w.heap.size 3 i0 (.int .i64 0) 1 8 Try.underlying24 hi hz0 hz1 hz2 rfl (by decide) _ _ _ rfl (hrow.alloc _) ⟨W.heap.size, 0, none⟩ 1 1 [.int .i64 x] rfl rfl (cell_one_new _ _ _) (by simp [Value.oneCell']) (by unfold maxLen; omega) (by omega) (by have := hBW.size; simp; omega) ?_; intro v' w1 hown' hgrow _; obtain ⟨g', cap', rfl⟩ := ownsRow_succ hown'; obtain ⟨hv1, hv2, hr2, hk2, hb2⟩ := hv.appended (by decide) hrow hBW.size (Nat.le_refl _) hown' hgrow; have hc1 := hv1.cell; have hf1 := hv1.frozen)
    exact ⟨hk2.from _, hb2, ⟨_, hv2, by simpa [ints] using hr2, trivial⟩, hBW.trans hb2⟩
  case done =>
    rintro D ys W hD rfl ⟨⟨u, hv, hrow, -⟩, hBW⟩ hK
    have hcu := hv.cell
    gi_wp2
    refine ⟨by simp, .inl ⟨_, _, rfl, run_takeDeferred hK, ?_⟩⟩
    exact ⟨_, results_tmp rfl _ _ _, _, rfl, ownsRow_putObj hrow _ hK rfl, hBW.trans (belowK_b (w := w) (Nat.le_refl _) W D _ _ (by simp at hD; omega) hK rfl rfl)⟩
  case stop =>
    rintro D c pre W _ _ h _
    exact h.elim

set_option maxHeartbeats 1000000 in
theorem collect_in (F : Fence) (n : Nat) (hC : F.fn 137) (hA : F.fn 141) (hV : F.fn 139) (hro : F.round = none) (hn : 4 ≤ n) (Bs : Nat) (v : Value) (zs : List Int) (w : World) (hin : InRow w v zs) (hlen : zs.length ≤ 2000000) (hB : Bs < w.heap.size) (hc : w.cell? ⟨Bs, 0, none⟩ = some v) :
    CallsIn F n Try.prog 137 #[.func (.func 139) #[] #[.pointer (some ⟨Bs, 0, none⟩)]] w (IntsRes zs w) := by
  have HX := hide (appendSeq_in F (n - 1) hA hV hro (by omega) Bs v zs w hin hlen hB hc)
  have h1 : 1 ≤ n := by omega
  clear hin hc
  refine callsIn_of_wp Try.func137 rfl hC ?_ hro
  simp only [Try.ntmps137, List.size_toArray, List.length_cons, List.length_nil, Nat.reduceAdd, Nat.reduceSub, Array.replicate_succ, Array.replicate_zero, List.push_toArray, List.append_toArray, List.nil_append, List.cons_append]
  gi_wp2_with (gi_at_call 141; refine HX.out.mono ?_; rintro e w' ⟨u, rfl, ho, hb⟩)
  go_ret
  exact ⟨_, rfl, ho, hb⟩
theorem collectVals_any (Bs : Nat) (v : Value) (zs : List Int) (w : World) (hin : InRow w v zs) (hlen : zs.length ≤ 2000000) (hB : Bs < w.heap.size) (hc : w.cell? ⟨Bs, 0, none⟩ = some v) :
    Calls Try.prog 137 #[.func (.func 139) #[] #[.pointer (some ⟨Bs, 0, none⟩)]] w (IntsRes zs w) :=
  (callsIn_wide (n := 4)).1 (collect_in Fence.wide 4 trivial trivial trivial rfl (by omega) Bs v zs w hin hlen hB hc)
end Go.Proofs.Ytjgkblgilnfpfaa
/-
  Contracts of the library, at this translation: laid by the shelf, in plain declarations.
-/
namespace Go.Proofs
open Go.Shelf
def Try.sortI_ren : Go.Shelf.Ren := ⟨fun | 6 => 138 | 15 => 143 | 14 => 142 | 28 => 152 | 29 => 153 | 20 => 144 | 21 => 145 | 22 => 146 | 23 => 147 | 24 => 148 | 25 => 149 | 26 => 150 | 27 => 151 | 46 => 154 | 47 => 155 | 48 => 156 | 49 => 157 | 50 => 158 | 57 => 159 | n => n, fun | 22 => 24 | 24 => 3 | 25 => 117 | 3 => 3 | 39 => 93 | 0 => 0 | 53 => 108 | 55 => 110 | 4 => 4 | 46 => 124 | 45 => 123 | 50 => 128 | 5 => 5 | 9 => 9 | 66 => 130 | 70 => 134 | 76 => 136 | 77 => 137 | n => n, fun | n => n⟩
theorem Try.sortI : Go.Proofs.SlLaysF.n6 Try.prog Try.sortI_ren := {
  mixed := by kernel_rfl
  f6 := ⟨Try.f138.name, by decide, Try.func138.trans (congrArg some (by kernel_rfl))⟩
  f14 := ⟨Try.f142.name, by decide, Try.func142.trans (congrArg some (by kernel_rfl))⟩
  f15 := Try.func143.trans (congrArg some (by kernel_rfl))
  f20 := ⟨Try.f144.name, by decide, Try.func144.trans (congrArg some (by kernel_rfl))⟩
  f21 := ⟨Try.f145.name, by decide, Try.func145.trans (congrArg some (by kernel_rfl))⟩
  f22 := ⟨Try.f146.name, by decide, Try.func146.trans (congrArg some (by kernel_rfl))⟩
  f23 := ⟨Try.f147.name, by decide, Try.func147.trans (congrArg some (by kernel_rfl))⟩
  f24 := ⟨Try.f148.name, by decide, Try.func148.trans (congrArg some (by kernel_rfl))⟩
  f25 := ⟨Try.f149.name, by decide, Try.func149.trans (congrArg some (by kernel_rfl))⟩
  f26 := ⟨Try.f150.name, by decide, Try.func150.trans (congrArg some (by kernel_rfl))⟩
  f27 := ⟨Try.f151.name, by decide, Try.func151.trans (congrArg some (by kernel_rfl))⟩
  f28 := Try.func152.trans (congrArg some (by kernel_rfl))
  f29 := Try.func153.trans (congrArg some (by kernel_rfl))
  f46 := ⟨Try.f154.name, by decide, Try.func154.trans (congrArg some (by kernel_rfl))⟩
  f47 := Try.func155.trans (congrArg some (by kernel_rfl))
  f48 := Try.func156.trans (congrArg some (by kernel_rfl))
  f49 := ⟨Try.f157.name, by decide, Try.func157.trans (congrArg some (by kernel_rfl))⟩
  f50 := ⟨Try.f158.name, by decide, Try.func158.trans (congrArg some (by kernel_rfl))⟩
  f57 := ⟨Try.f159.name, by decide, Try.func159.trans (congrArg some (by kernel_rfl))⟩
  t0 := Try.underlying0
  a0 := Try.isAgg0
  z0 := Try.sizeOf0
  v0 := Try.zeroValue0
  t3 := Try.underlying3
  a3 := Try.isAgg3
  z3 := Try.sizeOf3
  v3 := Try.zeroValue3
  t4 := Try.underlying4
  a4 := Try.isAgg4
  z4 := Try.sizeOf4
  v4 := Try.zeroValue4
  t5 := Try.underlying5
  a5 := Try.isAgg5
  z5 := Try.sizeOf5
  v5 := Try.zeroValue5
  t9 := Try.underlying9
  a9 := Try.isAgg9
  z9 := Try.sizeOf9
  v9 := Try.zeroValue9
  t22 := Try.underlying24
  a22 := Try.isAgg24
  z22 := Try.sizeOf24
  v22 := Try.zeroValue24
  a24 := Try.isAgg3
  z24 := Try.sizeOf3
  t25 := Try.underlying117
  a25 := Try.isAgg117
  z25 := Try.sizeOf117
  v25 := Try.zeroValue117
  t39 := Try.underlying93
  a39 := Try.isAgg93
  z39 := Try.sizeOf93
  v39 := Try.zeroValue93
  t45 := Try.underlying123
  a45 := Try.isAgg123
  z45 := Try.sizeOf123
  v45 := Try.zeroValue123
  t46 := Try.underlying124
  a46 := Try.isAgg124
  z46 := Try.sizeOf124
  v46 := Try.zeroValue124
  t50 := Try.underlying128
  a50 := Try.isAgg128
  z50 := Try.sizeOf128
  v50 := Try.zeroValue128
  t53 := Try.underlying108
  a53 := Try.isAgg108
  z53 := Try.sizeOf108
  v53 := Try.zeroValue108
  t55 := Try.underlying110
  a55 := Try.isAgg110
  z55 := Try.sizeOf110
  v55 := Try.zeroValue110
  t66 := Try.underlying130
  a66 := Try.isAgg130
  z66 := Try.sizeOf130
  v66 := Try.zeroValue130
  t70 := Try.underlying134
  a70 := Try.isAgg134
  z70 := Try.sizeOf134
  v70 := Try.zeroValue134
  t76 := Try.underlying136
  a76 := Try.isAgg136
  z76 := Try.sizeOf136
  v76 := Try.zeroValue136
  t77 := Try.underlying137
  a77 := Try.isAgg137
  z77 := Try.sizeOf137
  v77 := Try.zeroValue137 }
end Go.Proofs
/-
  SortedDown of the program: slices.SortedFunc over slices.Values.
-/
namespace Go.Proofs.Ytjgkblgilnfpfaa
open Go.RowKit

/-- cmp.Compare on integers. -/
def cmpI (x y : Int) : Int := if x < y then -1 else if y < x then 1 else 0
theorem cmpI_neg (x y : Int) : (cmpI x y < 0) = (x < y) := by
  unfold cmpI
  by_cases h1 : x < y
  · rw [if_pos h1]; simp [h1]
  · rw [if_neg h1]
    by_cases h2 : y < x
    · rw [if_pos h2]; simp; omega
    · rw [if_neg h2]; simp; omega
theorem isNaN_any (x : Int) (w : World) : Calls Try.prog 140 #[.int .i64 x] w fun e w' => e = .returned (.bool false) ∧ w = w' := by
  go_enter Try.func140, Try.ntmps140
  go_wp2
  go_ret
  exact ⟨ret_bool (by simp), rfl⟩
set_option maxHeartbeats 400000 in
theorem compare_any (x y : Int) (w : World) : Calls Try.prog 136 #[.int .i64 x, .int .i64 y] w fun e w' => e = .returned (.int .i64 (cmpI x y)) ∧ w = w' := by
  have H1 := hide fun h : x < y => (show cmpI x y = -1 by rw [cmpI, if_pos h])
  have H2 := hide fun (h : ¬ x < y) (h2 : y < x) => (show cmpI x y = 1 by rw [cmpI, if_neg h, if_pos h2])
  have H3 := hide fun (h : ¬ x < y) (h2 : ¬ y < x) => (show cmpI x y = 0 by rw [cmpI, if_neg h, if_neg h2])
  by_cases h1 : x < y
  · rw [H1.out h1]
    go_enter Try.func136, Try.ntmps136
    go_wp2_with (first | (with_reducible refine (isNaN_any x _).mono ?_; rintro e w' ⟨rfl, rfl⟩) | (with_reducible refine (isNaN_any y _).mono ?_; rintro e w' ⟨rfl, rfl⟩))
    go_ret
    exact ⟨rfl, rfl⟩
  · by_cases h2 : y < x
    · rw [H2.out h1 h2]
      go_enter Try.func136, Try.ntmps136
      go_wp2_with (first | (with_reducible refine (isNaN_any x _).mono ?_; rintro e w' ⟨rfl, rfl⟩) | (with_reducible refine (isNaN_any y _).mono ?_; rintro e w' ⟨rfl, rfl⟩))
      go_ret
      exact ⟨rfl, rfl⟩
    · rw [H3.out h1 h2]
      go_enter Try.func136, Try.ntmps136
      go_wp2_with (first | (with_reducible refine (isNaN_any x _).mono ?_; rintro e w' ⟨rfl, rfl⟩) | (with_reducible refine (isNaN_any y _).mono ?_; rintro e w' ⟨rfl, rfl⟩))
      go_ret
      exact ⟨rfl, rfl⟩
theorem downCmp_any (x y : Int) (w : World) : Calls Try.prog 135 #[.int .i64 x, .int .i64 y] w fun e w' => e = .returned (.int .i64 (cmpI y x)) ∧ w = w' := by
  go_enter Try.func135, Try.ntmps135
  go_wp2_with ((with_reducible refine (compare_any y x _).mono ?_); rintro e w' ⟨rfl, rfl⟩)
  go_ret
  exact ⟨rfl, rfl⟩

def downC (x y : Int) : Int := cmpI y x
theorem downC_lt (x y : Int) : ltOf downC x y = decide (y < x) := by
  unfold ltOf downC; simp only [cmpI_neg]
theorem downC_swo : Go.Sort.SWO (ltOf downC) where
  irrefl x := by rw [downC_lt]; simp
  trans x y z h1 h2 := by rw [downC_lt] at *; simp at *; omega
  ntrans x y z h1 h2 := by rw [downC_lt] at *; simp at *; omega

/-- What the sort leaves of a slice that the call owns. -/
theorem own_sorted {w : World} {base E n g cap : Nat} {r : List Int} (s : List Int) (m : Nat) (os : Array Obj) (h : w.ownsRow base E 1 (.slice (some ⟨g, 0, none⟩) n cap) n (ints r)) (hs : s.length = n) :
    (sortWorld (Value.int .i64) w g 0 m s.toArray os).ownsRow base E 1 (.slice (some ⟨g, 0, none⟩) n cap) n (ints s) ∧ w.grownBy (sortWorld (Value.int .i64) w g 0 m s.toArray os) (some g) := by
  rcases h.2 with ⟨he, _⟩ | ⟨g', cap', cur, he, hbg, hg, hc, hm, hz, ht⟩
  · cases he
  cases he
  have hgl := (Array.getElem?_eq_some_iff.1 hg).1
  have hheap : (sortWorld (Value.int .i64) w g 0 m s.toArray os).heap = w.heap.modify g (Go.Sort.onCells (Go.Sort.putCells (Value.int .i64) 0 s.toArray)) ++ os := rfl
  have hsz : (w.heap.modify g (Go.Sort.onCells (Go.Sort.putCells (Value.int .i64) 0 s.toArray))).size = w.heap.size := Array.size_modify
  have hat : (sortWorld (Value.int .i64) w g 0 m s.toArray os).heap[g]? = some (.cells (Go.Sort.putCells (Value.int .i64) 0 s.toArray cur) E (0, 0)) := by
    rw [hheap, Array.getElem?_append_left (by rw [hsz]; exact hgl), Array.getElem?_modify, if_pos rfl, hg]; rfl
  refine ⟨⟨by rw [ints_len]; omega, .inr ⟨g, cap, _, rfl, hbg, hat, hc, hm, by rw [Go.Sort.putCells, Array.size_mapIdx]; exact hz, ?_⟩⟩, ⟨rfl, rfl, rfl, by rw [hheap, Array.size_append, hsz]; omega, fun k hk hne => ?_⟩⟩
  · apply List.ext_getElem
    · rw [List.length_take, Array.length_toList, Go.Sort.putCells, Array.size_mapIdx, ints_len]; omega
    · intro i h1 h2
      rw [ints_len] at h2
      have h3 := ints_at s i h2
      rw [List.getElem?_eq_getElem (by rw [ints_len]; exact h2)] at h3
      rw [Option.some.inj h3, List.getElem_take, Array.getElem_toList]
      simp only [Go.Sort.putCells, Array.getElem_mapIdx]
      rw [if_pos ⟨Nat.zero_le _, by simp; omega⟩]
      simp [h2]
  · rw [hheap, Array.getElem?_append_left (by rw [hsz]; exact hk), Array.getElem?_modify, if_neg (fun e => hne (by rw [e]))]

set_option maxHeartbeats 1000000 in
theorem sortFunc_any (base : Nat) (v : Value) (r : List Int) (w : World) (h : w.ownsRow base 3 1 v r.length (ints r)) (hr : r.length ≤ 2000000) (hb : base ≤ w.heap.size) :
    Calls Try.prog 138 #[v, .func (.func 135) #[] #[]] w fun e w' => e = .returned (.tuple #[]) ∧ w'.ownsRow base 3 1 v r.length (ints (sortD r)) ∧ Below base w w' := by
  by_cases h0 : r.length = 0
  · obtain rfl : r = [] := List.eq_nil_of_length_eq_zero h0
    obtain ⟨a, c, rfl⟩ := own_none h
    have hcon := AnyF.slices_SortFunc_none (P := Try.prog) (ρ := Try.sortI_ren) { Try.sortI with } a c (.func (.func 135) #[] #[]) w
    change Calls Try.prog 138 _ _ _ at hcon
    refine hcon.mono ?_
    rintro e w' ⟨rfl, rfl⟩
    exact ⟨rfl, by simpa [sortD] using h, Below.refl _ _⟩
  · obtain ⟨g, cap, rfl, hbg, hg, hc, hm, hcell, hfr⟩ := own_some h (by omega)
    have eg : ∀ args w, (callFunc 135 args).run Try.prog w = .ok (.enter 135 args) w := enters_of Try.func135 (by kernel_rfl) rfl
    have hcmp : CmpLays1 Try.prog 135 #[] (Value.int .i64) downC g 0 r.toArray.size w := fun m os dk _ x y =>
      (downCmp_any x y _).mono fun e w' ⟨he, hw⟩ => ⟨he, 0, #[], by rw [← hw, Go.Sort.grow_empty]; rfl⟩
    have hH : Go.Sort.Holds (Value.int .i64) w g 0 r.toArray := fun j hj => by
      have hj' : j < r.length := by simpa using hj
      rw [Nat.zero_add]
      exact ⟨by rw [hcell j hj', ints_at r j hj']; simp [hj'], hfr j⟩
    have hcon := Any.slices_SortFunc_total Try.sortI (Value.int .i64) (fun _ => rfl) downC downC_swo 135 #[] g 0 cap r.toArray w eg hcmp hH hg (by simp; omega)
      (fun x y h1 h2 => by rw [downC_lt] at h1 h2; simp at h1 h2; omega)
    change Calls Try.prog 138 _ _ _ at hcon
    rw [List.size_toArray] at hcon
    refine hcon.mono ?_
    rintro e w' ⟨rfl, m, os, rfl⟩
    have hs : (r.mergeSort fun x y => !ltOf downC y x) = sortD r := by
      rw [sortD]; congr 1; funext x y; rw [downC_lt]; by_cases hxy : x < y
      · rw [decide_eq_true hxy, decide_eq_false (by omega)]; rfl
      · rw [decide_eq_false hxy, decide_eq_true (by omega)]; rfl
    dsimp only
    rw [hs]
    obtain ⟨k1, k2⟩ := own_sorted (sortD r) m os h (sortD_len r)
    exact ⟨rfl, k1, (Below.refl _ _).grown k2 hb (fun k hk => by cases hk; exact hbg)⟩

theorem values_any (a : Option Addr) (n c : Nat) (w : World) :
    Calls Try.prog 134 #[.slice a n c] w fun e w' => e = .returned (.func (.func 139) #[] #[.pointer (some ⟨w.heap.size, 0, none⟩)]) ∧ w' = w.alloc (.cells #[.slice a n c] 24) := by
  go_enter Try.func134, Try.ntmps134
  go_wp2
  go_ret
  exact ⟨rfl, rfl⟩
set_option maxHeartbeats 400000 in
theorem sortedFunc_any (Bs : Nat) (v : Value) (r : List Int) (w : World) (hin : InRow w v r) (hr : r.length ≤ 2000000) (hB : Bs < w.heap.size) (hc : w.cell? ⟨Bs, 0, none⟩ = some v) :
    Calls Try.prog 133 #[.func (.func 139) #[] #[.pointer (some ⟨Bs, 0, none⟩)], .func (.func 135) #[] #[]] w (IntsRes (sortD r) w) := by
  have HX := hide (collectVals_any Bs v r w hin hr hB hc)
  clear hin hc
  go_enter Try.func133, Try.ntmps133
  go_wp2_with fail
  refine HX.out.mono ?_
  rintro e w1 ⟨u, rfl, ho, hb⟩
  have HS := hide (sortFunc_any w.heap.size u r w1 ho hr hb.size)
  have HB := hide hb
  clear ho hb
  go_wp2_with fail
  refine HS.out.mono ?_
  rintro e w2 ⟨rfl, ho, hb⟩
  have HO := hide ho; have HB2 := hide (HB.out.trans hb)
  clear ho hb
  go_wp2
  go_ret
  exact ⟨_, rfl, by rw [sortD_len]; exact HO.out, HB2.out⟩
set_option maxHeartbeats 400000 in
theorem implSortedDown_any (v : Value) (l : List Int) (w : World) (hin : InRow w v l) (hl : l.length ≤ 1048576) :
    Calls Try.prog 125 #[v] w (IntsRes (sortD l) w) := by
  have hb := (Below.refl w.heap.size w).alloc (Nat.le_refl _) (.cells #[v] 24)
  have HX := hide (sortedFunc_any w.heap.size v l _ (inRow_below hin hb) (by omega) (by simp) (show (w.alloc (.cells #[v] 24)).cell? ⟨w.heap.size, 0, none⟩ = some v by simp [World.cell?_alloc_new]))
  have HB := hide hb
  obtain ⟨a, c, rfl, -, -⟩ := hin
  clear hb
  go_enter Try.func125, Try.ntmps125
  go_wp2_with fail
  refine (values_any a _ c _).mono ?_
  rintro e w1 ⟨rfl, rfl⟩
  go_wp2_with fail
  refine HX.out.mono ?_
  rintro e w2 ⟨u, rfl, ho, hb⟩
  have HO := hide (own_base ho HB.out.size); have HB2 := hide (HB.out.trans (hb.mono HB.out.size))
  clear ho hb
  go_wp2
  go_ret
  exact ⟨_, rfl, HO.out, HB2.out⟩
end Go.Proofs.Ytjgkblgilnfpfaa
/-
  Worlds that have grown: some draws, some blocks laid behind.
-/
namespace Go.Proofs.Ytjgkblgilnfpfaa
open Go.RowKit

/-- After some draws, with some blocks laid behind. -/
def GrownW (w w' : World) : Prop := ∃ q os, w' = Go.Sort.grow (w.drewN q) os
theorem grownW_refl (w : World) : GrownW w w := ⟨0, #[], by rw [Go.Sort.grow_empty]; rfl⟩
theorem grownW_grow (w : World) (q : Nat) (os : Array Obj) : GrownW w (Go.Sort.grow (w.drewN q) os) := ⟨q, os, rfl⟩
theorem grownW_trans {a b c : World} (h : GrownW a b) (k : GrownW b c) : GrownW a c := by
  obtain ⟨q, os, rfl⟩ := h
  obtain ⟨p, os', rfl⟩ := k
  exact ⟨q + p, os ++ os', by show Go.Sort.grow (Go.Sort.grow ((a.drewN q).drewN p) os) os' = _; rw [Go.Sort.grow_grow, World.drewN_drewN]⟩
theorem grownW_alloc (w : World) (o : Obj) : GrownW w (w.alloc o) := ⟨0, #[o], by rw [Go.Sort.alloc_eq_grow]; rfl⟩
theorem grownW_below {w w' : World} (h : GrownW w w') : Below w.heap.size w w' := by
  obtain ⟨q, os, rfl⟩ := h
  refine ⟨rfl, rfl, rfl, ?_, fun k hk => ?_⟩
  · show w.heap.size ≤ (w.heap ++ os).size
    rw [Array.size_append]; omega
  · show (w.heap ++ os)[k]? = _
    rw [Array.getElem?_append_left hk]
theorem quiet_of {P : Program} {f : FuncId} {args : Array Value} {w : World} {n : Nat} {os : Array Obj} {v : Value} (h : Calls P f args (Go.Sort.grow (w.drewN n) os) fun e w' => e = .returned v ∧ GrownW (Go.Sort.grow (w.drewN n) os) w') :
    Calls P f args (Go.Sort.grow (w.drewN n) os) fun e w'' => e = .returned v ∧ ∃ p : GrownBy, w'' = Go.Sort.grow (w.drewN p.n) p.os := Calls.grown_of h
end Go.Proofs.Ytjgkblgilnfpfaa
/-
  The bounds of chapter 5: slack, isBroken, and the comparison by slack.
-/
namespace Go.Proofs.Ytjgkblgilnfpfaa
open Go.RowKit

/-- A bound in a variable. -/
def BoundAt (w : World) (g : Nat) (s m : Int) : Prop := w.heap[g]? = some (.cells #[.int .i64 s, .int .i64 m] 98 (0, 0))
theorem boundAt_below {w w' : World} {g : Nat} {s m : Int} (h : BoundAt w g s m) (hb : Below w.heap.size w w') : BoundAt w' g s m := by
  unfold BoundAt; rw [hb.block g (Array.getElem?_eq_some_iff.1 h).1]; exact h
theorem boundAt_cells {w : World} {g : Nat} {s m : Int} (h : BoundAt w g s m) : w.cell? ⟨g, 0, none⟩ = some (.int .i64 s) ∧ w.cell? ⟨g, 1, none⟩ = some (.int .i64 m) :=
  ⟨by rw [cell_of_row w g 0 _ _ _ h]; rfl, by rw [cell_of_row w g 1 _ _ _ h]; rfl⟩
theorem boundAt_frozen {w : World} {g : Nat} {s m : Int} (h : BoundAt w g s m) : w.frozen? ⟨g, 0, none⟩ = false ∧ w.frozen? ⟨g, 1, none⟩ = false := by
  unfold BoundAt at h
  simp [World.frozen?, h]
theorem Try.sizeBound : (Try.prog.info? 98).map (·.size) = some 2 := by kernel_rfl
theorem wpList_loadBound {ops : Array Oper} {rest : List Oper} {o : Oper} {a : Act} {Q : Exit → Act → World → Prop} {W : World} {g : Nat} {s m : Int} (hb : BoundAt W g s m)
    (hgd : o.guard = none) (x : Operand) (ho : o.op = .load 98 x) (hx : a.eval x = .pointer (some ⟨g, 0, none⟩))
    (h : wpList Try.prog ops Q rest (a.put o.dst (.agg #[.int .i64 s, .int .i64 m])) W) : wpList Try.prog ops Q (o :: rest) a W :=
  wpList_load_row hgd _ x ho g hx _ _ (0, 0) _ hb Try.underlying98 rfl Try.sizeBound h

set_option maxHeartbeats 400000 in
theorem slack_any (s m : Int) (w : World) (hs : 0 ≤ s ∧ s ≤ 25) (hm : 0 ≤ m ∧ m ≤ 25) :
    Calls Try.prog 128 #[.agg #[.int .i64 s, .int .i64 m]] w fun e w' => e = .returned (.int .i64 (m - s)) ∧ GrownW w w' := by
  obtain ⟨s1, s2⟩ := hs
  obtain ⟨m1, m2⟩ := hm
  go_enter Try.func128, Try.ntmps128
  go_wp2
  go_ret
  exact ⟨rfl, grownW_alloc _ _⟩
set_option maxHeartbeats 400000 in
theorem isBroken_any (s m : Int) (w : World) (hs : 0 ≤ s ∧ s ≤ 25) (hm : 0 ≤ m ∧ m ≤ 25) :
    Calls Try.prog 121 #[.agg #[.int .i64 s, .int .i64 m]] w fun e w' => e = .returned (.bool (decide (m - s < 0))) ∧ Below w.heap.size w w' := by
  have HG := hide (show BoundAt (w.alloc (.cells #[.int .i64 s, .int .i64 m] 98)) w.heap.size s m from heap_alloc_new w _)
  have HSL := hide fun w => slack_any s m w hs hm
  go_enter Try.func121, Try.ntmps121
  go_wp2_with (first | (with_reducible refine wpList_loadBound HG.out rfl _ rfl rfl ?_) | ((with_reducible refine (HSL.out _).mono ?_); rintro e w1 ⟨rfl, hg⟩; have HB := hide (grownW_below (grownW_trans (grownW_alloc _ _) hg)); clear hg))
  go_ret
  exact ⟨rfl, HB.out⟩
theorem load_bound {w : World} {g : Nat} {s m : Int} (h : BoundAt w g s m) (n : Nat) (os : Array Obj) : BoundAt (Go.Sort.grow (w.drewN n) os) g s m := boundAt_below h (grownW_below ⟨n, os, rfl⟩)
end Go.Proofs.Ytjgkblgilnfpfaa
