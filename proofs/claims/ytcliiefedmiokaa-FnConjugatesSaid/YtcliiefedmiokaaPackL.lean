/-
  Texts of this claim, one behind the other: RowFn, DelI, DelR, Subs, ImgBy, ExistS, BuildS, Rest, LeastI.
-/
import Derived.Test.YtcliiefedmiokaaPackE
import Derived.Test.YtcliiefedmiokaaPackB
import Derived.Laws.IdiomCopy
import Derived.Lib.SliceRun
import Derived.Shelf.Abstract
import Derived.Deep.LoopGhost
import Derived.Shelf.Slices.Delete
import Derived.Shelf.Slices.Cells
import Derived.Lib.OwnBridge
import Derived.Test.YtcliiefedmiokaaPackI
import Derived.Test.YtcliiefedmiokaaPackF
import Derived.Laws.OwnMore
import Derived.Great.BuildSlice
import Derived.Test.YtcliiefedmiokaaPackK
/-
  slices.IndexFunc, ContainsFunc, DeleteFunc over rows.
-/
namespace Go.Proofs.Ytcliiefedmiokaa
open Go.RowKit Go.Shelf

/-- What the function value answers of a row that meets ok, in whatever world has grown out of W. -/
def RowPred (g : Nat) (cb : Array Value) (ok : List Int → Prop) (p : List Int → Bool) (W : World) : Prop :=
  ∀ (r : List Int) (u : Value) (w : World), ok r → Below W.heap.size W w → InRow w u r → Calls Try.prog g (#[u] ++ cb) w fun e w' => e = .returned (.bool (p r)) ∧ Below w.heap.size w w'
theorem rowPred_mono {g : Nat} {cb : Array Value} {ok : List Int → Prop} {p : List Int → Bool} {W W' : World} (h : RowPred g cb ok p W) (hb : Below W.heap.size W W') : RowPred g cb ok p W' :=
  fun r u w ho hw hr => h r u w ho (hb.trans (hw.mono hb.size)) hr
/-- The place of the first row at which p holds, or -1. -/
def idxP (p : List Int → Bool) (m : List (List Int)) : Int := if m.findIdx p < m.length then (m.findIdx p : Nat) else -1
theorem idxP_hit {p : List Int → Bool} {m : List (List Int)} {k : Nat} (hk : k < m.length) (h : p m[k] = true) (ha : ∀ t, (ht : t < m.length) → t < k → p m[t] = false) : idxP p m = k := by
  have : m.findIdx p = k := (List.findIdx_eq hk).2 ⟨h, fun j hj => ha j (by omega) hj⟩
  rw [idxP, this, if_pos hk]
theorem idxP_miss {p : List Int → Bool} {m : List (List Int)} (ha : ∀ t, (ht : t < m.length) → p m[t] = false) : idxP p m = -1 := by
  rw [idxP, if_neg]
  intro h
  have := List.findIdx_getElem (w := h)
  rw [ha _ h] at this; cases this
theorem idxP_any (p : List Int → Bool) (m : List (List Int)) : decide (0 ≤ idxP p m) = m.any p := by
  cases h : m.any p with
  | true =>
    rw [List.any_eq_true] at h
    obtain ⟨x, hx, hp⟩ := h
    have := List.findIdx_lt_length_of_exists ⟨x, hx, hp⟩
    rw [idxP, if_pos this]; simp
  | false =>
    rw [List.any_eq_false] at h
    rw [idxP_miss fun t ht => by simpa using h _ (List.getElem_mem ht)]; rfl
set_option maxHeartbeats 1000000 in
theorem idxRows_any (v : Value) (m : List (List Int)) (g : Nat) (cb : Array Value) (ok : List Int → Prop) (p : List Int → Bool) (w : World) (eg : ∀ args w, (callFunc g args).run Try.prog w = .ok (.enter g args) w) (hin : InMat w v m) (hok : ∀ r ∈ m, ok r) (hp : RowPred g cb ok p w) :
    Calls Try.prog 131 #[v, .func (.func g) #[] cb] w fun e w' => e = .returned (.int .i64 (idxP p m)) ∧ Below w.heap.size w w' := by
  obtain ⟨a, c, rfl, hm, hpl⟩ := hin
  unfold maxLen at hm
  have HP := hide hp; have HOK := hide hok
  clear hp hok
  by_cases h0 : m.length = 0
  · have hr : m = [] := List.eq_nil_of_length_eq_zero h0
    subst hr
    clear hpl h0 hm
    go_enter Try.func131, Try.ntmps131
    go_wp2
    go_loop [8] (fun i => i = .int .i64 0) (fun _ => 0)
    case atStart => rfl
    case round =>
      obtain rfl := hrel
      go_wp2
      go_ret
      exact ⟨rfl, Below.refl _ _⟩
  · obtain ⟨b, o, rfl, hg, hc⟩ := hpl.resolve_left h0
    have HC := hide hc; have HG := hide hg
    obtain ⟨n, hn⟩ : ∃ n, n = m.length := ⟨_, rfl⟩
    have HN := hide hn
    rw [← hn] at hm ⊢
    clear hpl hc h0 hn hg
    go_enter Try.func131, Try.ntmps131
    go_wp2
    go_loopw [8] (fun i w' => ∃ k : Nat, k ≤ n ∧ i = .int .i64 k ∧ (∀ t, (h : t < m.length) → t < k → p m[t] = false) ∧ Below w.heap.size w w') (fun i _ => n - (intOf i).toNat)
    case atStart => exact ⟨0, Nat.zero_le _, rfl, fun t _ h => absurd h (Nat.not_lt_zero _), Below.refl _ _⟩
    case round =>
      obtain ⟨k, hk, rfl, hall, hb⟩ := hrel
      have HA := hide hall; have HB := hide hb
      clear hall hb
      by_cases hlt : k < n
      · have hk' : k < m.length := by rw [← HN.out]; exact hlt
        obtain ⟨u, hu, hru⟩ := HC.out k hk'
        have hx := below_cell HB.out HG.out hu
        have HCALL := hide (HP.out m[k] u wr (HOK.out _ (List.getElem_mem hk')) HB.out (inRow_below hru HB.out))
        have HHIT := hide (fun h => idxP_hit (p := p) hk' h HA.out)
        have HST : Hid (p m[k] = false → ∀ t, (h : t < m.length) → t < k + 1 → p m[t] = false) := hide fun h t h1 ht => by
          by_cases e : t = k
          · subst e; exact h
          · exact HA.out t h1 (by omega)
        clear hu hru
        obtain ⟨q, hq⟩ : ∃ q, q = p m[k] := ⟨_, rfl⟩
        rw [← hq] at HCALL HHIT HST
        clear hq
        cases q with
        | true =>
          have HF := hide (HHIT.out rfl); clear HHIT HST
          go_wp2_with (go_at_fn g; refine HCALL.out.mono ?_; rintro e w9 ⟨rfl, hb9⟩; have HB9 := hide (HB.out.trans (hb9.mono HB.out.size)); clear hb9)
          go_ret
          exact ⟨by rw [HF.out]; rfl, HB9.out⟩
        | false =>
          have HS2 := hide (HST.out rfl); clear HST HHIT
          go_wp2_with (go_at_fn g; refine HCALL.out.mono ?_; rintro e w9 ⟨rfl, hb9⟩; have HB9 := hide (HB.out.trans (hb9.mono HB.out.size)); clear hb9)
          go_roundw
          case rel => exact ⟨k + 1, by omega, by go_num, HS2.out, HB9.out⟩
          case measure => simp [intOf]; omega
      · have HY := hide (idxP_miss (p := p) fun t h => HA.out t h (by have := HN.out; omega))
        go_wp2
        go_ret
        exact ⟨by rw [HY.out]; rfl, HB.out⟩
set_option maxHeartbeats 400000 in
theorem containsRows_any (v : Value) (m : List (List Int)) (g : Nat) (cb : Array Value) (ok : List Int → Prop) (p : List Int → Bool) (w : World) (eg : ∀ args w, (callFunc g args).run Try.prog w = .ok (.enter g args) w) (hin : InMat w v m) (hok : ∀ r ∈ m, ok r) (hp : RowPred g cb ok p w) :
    Calls Try.prog 99 #[v, .func (.func g) #[] cb] w fun e w' => e = .returned (.bool (m.any p)) ∧ Below w.heap.size w w' := by
  have HI := hide (idxRows_any v m g cb ok p w eg hin hok hp)
  have HY := hide (idxP_any p m)
  have hlo : -1 ≤ idxP p m ∧ idxP p m ≤ maxLen := by
    obtain ⟨a, c, -, hm, -⟩ := hin
    unfold idxP
    by_cases h : m.findIdx p < m.length
    · rw [if_pos h]; omega
    · rw [if_neg h]; exact ⟨by omega, by unfold maxLen; omega⟩
  unfold maxLen at hlo
  obtain ⟨q, hq⟩ : ∃ q, q = idxP p m := ⟨_, rfl⟩
  rw [← hq] at HI HY hlo
  rw [← HY.out]
  obtain ⟨hlo, hhi⟩ := hlo
  clear hin hok hp hq eg HY
  go_enter Try.func99, Try.ntmps99
  go_wp2_with (go_at_call 131; refine HI.out.mono ?_; rintro e w9 ⟨rfl, hb9⟩; have HB9 := hide hb9; clear hb9)
  go_ret
  exact ⟨rfl, HB9.out⟩
end Go.Proofs.Ytcliiefedmiokaa
/-
  slices.Delete at integers, of a slice that the call owns; owned slices cut, and many of their cells written.
-/
namespace Go.Proofs.Ytcliiefedmiokaa
open Go.RowKit Go.Shelf

def Try.laysDel_ren : Go.Shelf.Ren := ⟨fun | 23 => 136 | n => n, fun | 22 => 24 | 3 => 3 | 4 => 4 | 0 => 0 | n => n, fun | n => n⟩
theorem Try.laysDel : Go.Proofs.Lays2.n23 Try.prog Try.laysDel_ren := {
  mixed := by kernel_rfl
  f23 := Try.func136.trans (congrArg some (by kernel_rfl))
  t0 := Try.underlying0
  a0 := Try.isAgg0
  z0 := Try.sizeOf0
  v0 := Try.zeroValue0
  t3 := Try.underlying3
  a3 := Try.isAgg3
  z3 := Try.sizeOf3
  v3 := Try.zeroValue3
  t4 := Try.underlying4
  a4 := Try.isAgg4
  z4 := Try.sizeOf4
  v4 := Try.zeroValue4
  t22 := Try.underlying24
  a22 := Try.isAgg24
  z22 := Try.sizeOf24
  v22 := Try.zeroValue24
  i3 := by kernel_rfl }
theorem delete_any (B : Nat) (v : Value) (r : List Int) (y : Nat) (w : World) (hown : w.ownsRow B 3 1 v r.length (ints r)) (hy : y < r.length) :
    Calls Try.prog 136 #[v, .int .i64 y, .int .i64 (y + 1 : Nat)] w fun e w' => ∃ u, e = .returned u ∧ w'.ownsRow B 3 1 u (r.eraseIdx y).length (ints (r.eraseIdx y)) ∧ Below B w w' := by
  have hne : v ≠ .slice none 0 0 := by
    rintro rfl
    rcases hown.2 with ⟨-, h0⟩ | ⟨g, cap, cur, h, _⟩
    · omega
    · cases h
  obtain ⟨g, cap, rfl, hb, hlt, hcap, hm, hl, hH⟩ := Lib.holds_of_ownsRow (enc := Value.int .i64) (zs := r) hown hne
  refine (Any.slices_Delete_int Try.laysDel g 0 cap y (y + 1) r w hH hcap hm (by omega) (by omega)).mono ?_
  rintro e w' ⟨rfl, q, rfl⟩
  refine ⟨_, rfl, ?_, Lib.below_putRow (Below.refl _ _) hb⟩
  have h := Lib.ownsRow_putRow (enc := Value.int .i64) (zs := r) (q := q) (k := r.length - 1) (ys := r.take y ++ r.drop (y + 1) ++ List.replicate (y + 1 - y) 0) hown (by simp; omega) (by omega)
  have e1 : (r.take y ++ r.drop (y + 1) ++ List.replicate (y + 1 - y) (0 : Int)).take (r.length - 1) = r.eraseIdx y := by
    rw [List.eraseIdx_eq_take_drop_succ, List.take_append_of_le_length (by simp; omega), List.take_of_length_le (by simp; omega)]
  rw [e1] at h
  rw [show (r.eraseIdx y).length = r.length - 1 from List.length_eraseIdx_of_lt hy, show r.length - (y + 1 - y) = r.length - 1 by omega]
  exact h

/-- The first k elements of an owned slice. -/
theorem own_cut {w : World} {base e g n c k : Nat} {xs : List Value} (h : w.ownsRow base e 1 (.slice (some ⟨g, 0, none⟩) n c) n xs) (hk : k ≤ n) : w.ownsRow base e 1 (.slice (some ⟨g, 0, none⟩) k c) k (xs.take k) := by
  rcases h.2 with ⟨e0, _⟩ | ⟨g', cap', cur, e0, hb, hg, hn, hm, hs, ht⟩
  · cases e0
  · cases e0
    refine ⟨by rw [List.length_take]; have := h.1; omega, .inr ⟨_, _, cur, rfl, hb, hg, by omega, hm, hs, ?_⟩⟩
    rw [← ht, List.take_take]; congr 1; omega
/-- Cells of an owned slice written one behind the other. -/
theorem own_setCells {base e g n c : Nat} : ∀ (zs : List Value) (i : Nat) (w : World) (xs : List Value), w.ownsRow base e 1 (.slice (some ⟨g, 0, none⟩) n c) n xs →
    ∃ ys, (w.setCells g i zs).ownsRow base e 1 (.slice (some ⟨g, 0, none⟩) n c) n ys ∧ ys.take i = xs.take i ∧ w.grownBy (w.setCells g i zs) (some g)
  | [], i, w, xs, h => ⟨xs, h, rfl, rfl, rfl, rfl, Nat.le_refl _, fun _ _ _ => rfl⟩
  | z :: zs, i, w, xs, h => by
    obtain ⟨h1, h2⟩ := h.stored i z
    obtain ⟨ys, g1, g2, g3⟩ := own_setCells zs (i + 1) _ _ h1
    refine ⟨ys, g1, ?_, grown_trans h2 g3⟩
    have : (ys.take (i + 1)).take i = ((xs.set i z).take (i + 1)).take i := by rw [g2]
    rw [List.take_take, List.take_take, Nat.min_eq_left (by omega), List.take_set_of_le (by omega)] at this
    exact this
end Go.Proofs.Ytcliiefedmiokaa
/-
  slices.DeleteFunc over rows that the call owns; the predicate may make memory.
-/
namespace Go.Proofs.Ytcliiefedmiokaa
open Go.RowKit Go.Shelf

/-- A list of rows that lie from lo on. -/
def MatT (w : World) (lo : Nat) (v : Value) (m : List (List Int)) : Prop :=
  ∃ vs : List Value, w.ownsRow lo 24 1 v m.length vs ∧ ∀ i, (h : i < m.length) → w.ownsRow lo 3 1 (vs.getD i undef) m[i].length (ints m[i])
theorem matT_own {w : World} {lo hi : Nat} {v : Value} {m : List (List Int)} (h : OwnMat w lo hi v m) : MatT w lo v m := by
  obtain ⟨vs, h1, -, h3, -⟩ := h
  exact ⟨vs, h1, fun i hi => (h3 i hi).1⟩
theorem inMat_matT {w : World} {lo : Nat} {v : Value} {m : List (List Int)} (h : MatT w lo v m) : InMat w v m := by
  obtain ⟨vs, ho, hr⟩ := h
  rcases ho.2 with ⟨rfl, h0⟩ | ⟨g, cap, cur, rfl, hbg, hg, hc, hm, _⟩
  · exact ⟨none, 0, by rw [h0], by omega, .inl h0⟩
  · refine ⟨_, _, rfl, by omega, .inr ⟨g, 0, rfl, (Array.getElem?_eq_some_iff.1 hg).1, fun i hi => ⟨vs.getD i undef, ?_, inRow_own (hr i hi)⟩⟩⟩
    rw [Nat.zero_add]; exact cell_held ho hi
theorem matT_below {w w' : World} {lo : Nat} {v : Value} {m : List (List Int)} (h : MatT w lo v m) (hb : Below w.heap.size w w') : MatT w' lo v m := by
  obtain ⟨vs, h1, h2⟩ := h
  exact ⟨vs, own_below h1 hb, fun i hi => own_below (h2 i hi) hb⟩
theorem matT_base {w : World} {lo lo' : Nat} {v : Value} {m : List (List Int)} (h : MatT w lo v m) (hl : lo' ≤ lo) : MatT w lo' v m := by
  obtain ⟨vs, h1, h2⟩ := h
  exact ⟨vs, own_base h1 hl, fun i hi => own_base (h2 i hi) hl⟩
theorem matT_kept {w w' : World} {lo B e n : Nat} {v u : Value} {m : List (List Int)} {xs : List Value} (h : MatT w lo v m) (hu : w.ownsRow B e 1 u n xs) (hg : w.grownBy w' u.ownBlock) (h1 : 24 ≠ e) (h2 : 3 ≠ e) : MatT w' lo v m := by
  obtain ⟨vs, g1, g2⟩ := h
  exact ⟨vs, g1.kept hg (own_types g1 hu h1), fun i hi => (g2 i hi).kept hg (own_types (g2 i hi) hu h2)⟩

/-- The places of the first j rows at which p does not hold. -/
def kept (p : List Int → Bool) (m : List (List Int)) (j : Nat) : List Nat := (List.range j).filter fun t => !p (m.getD t [])
theorem kept_yes {p : List Int → Bool} {m : List (List Int)} {j : Nat} (h : p (m.getD j []) = false) : kept p m (j + 1) = kept p m j ++ [j] := by
  unfold kept
  rw [List.range_succ, List.filter_append]; simp only [List.filter_cons, List.filter_nil, h]; rfl
theorem kept_no {p : List Int → Bool} {m : List (List Int)} {j : Nat} (h : p (m.getD j []) = true) : kept p m (j + 1) = kept p m j := by
  unfold kept
  rw [List.range_succ, List.filter_append]; simp only [List.filter_cons, List.filter_nil, h]; simp
theorem kept_len (p : List Int → Bool) (m : List (List Int)) (j : Nat) : (kept p m j).length ≤ j := by
  have := List.length_filter_le (fun t => !p (m.getD t [])) (List.range j)
  simpa [kept] using this
theorem kept_lt {p : List Int → Bool} {m : List (List Int)} {j t : Nat} (h : t ∈ kept p m j) : t < j := by
  have := (List.mem_filter.1 h).1; simpa using this
theorem kept_all {p : List Int → Bool} {m : List (List Int)} : ∀ {j : Nat}, (∀ t, t < j → p (m.getD t []) = false) → kept p m j = List.range j
  | 0, _ => rfl
  | j + 1, h => by rw [kept_yes (h j (Nat.lt_succ_self _)), kept_all fun t ht => h t (by omega), List.range_succ]
theorem map_range_getD {α : Type} (d : α) (l : List α) (n : Nat) (h : n ≤ l.length) : (List.range n).map (fun t => l.getD t d) = l.take n := by
  apply List.ext_getElem
  · simp; omega
  · intro i h1 h2
    simp at h1
    simp [List.getElem?_eq_getElem (show i < l.length by omega)]
theorem kept_map (p : List Int → Bool) (m : List (List Int)) : (kept p m m.length).map (fun t => m.getD t []) = m.filter fun x => !p x := by
  unfold kept
  have h : m = (List.range m.length).map fun t => m.getD t [] := by rw [map_range_getD _ _ _ (Nat.le_refl _)]; simp
  conv => rhs; rw [h, List.filter_map]
  rfl
theorem idxP_spec (p : List Int → Bool) (m : List (List Int)) : (idxP p m = -1 ∧ ∀ t, t < m.length → p (m.getD t []) = false) ∨ ∃ k : Nat, k < m.length ∧ idxP p m = k ∧ p (m.getD k []) = true ∧ ∀ t, t < k → p (m.getD t []) = false := by
  have hg : ∀ t, (ht : t < m.length) → m.getD t [] = m[t] := fun t ht => by rw [List.getD_eq_getElem?_getD, List.getElem?_eq_getElem ht]; rfl
  by_cases h : m.findIdx p < m.length
  · refine .inr ⟨_, h, by rw [idxP, if_pos h], ?_, fun t ht => ?_⟩
    · rw [hg _ h]; exact List.findIdx_getElem (w := h)
    · rw [hg _ (by omega)]
      have := List.not_of_lt_findIdx ht
      simpa using this
  · refine .inl ⟨by rw [idxP, if_neg h], fun t ht => ?_⟩
    rw [hg _ ht]
    cases hp : p m[t] with
    | false => rfl
    | true => exact absurd (List.findIdx_lt_length_of_exists ⟨_, List.getElem_mem ht, hp⟩) h
/-- What the search finds of rows that are struck and kept. -/
theorem delRows_len (p : List Int → Bool) (m : List (List Int)) : (m.filter fun x => !p x).length = (kept p m m.length).length := by rw [← kept_map, List.length_map]

theorem zeroInts_run (w : World) : (zeroValue 24).run Try.prog w = .ok (.slice none 0 0) w := Try.zeroValue24 w

/-- Rows that lie from lo on; below, nothing has turned. -/
def RowsRes (lo : Nat) (m : List (List Int)) (w : World) (e : Ending) (w' : World) : Prop := ∃ u, e = .returned u ∧ MatT w' lo u m ∧ Below lo w w'
set_option maxHeartbeats 1000000 in
theorem delRows_no (v : Value) (m : List (List Int)) (g : Nat) (cb : Array Value) (ok : List Int → Prop) (p : List Int → Bool) (lo : Nat) (w : World) (eg : ∀ args w, (callFunc g args).run Try.prog w = .ok (.enter g args) w) (hin : MatT w lo v m) (hlo : lo ≤ w.heap.size) (hok : ∀ r ∈ m, ok r) (hp : RowPred g cb ok p w)
    (hno : idxP p m = -1) (hall : ∀ t, t < m.length → p (m.getD t []) = false) :
    Calls Try.prog 137 #[v, .func (.func g) #[] cb] w (RowsRes lo (m.filter fun x => !p x) w) := by
  have HI := hide (idxRows_any v m g cb ok p w eg (inMat_matT hin) hok hp)
  have HF : Hid ((m.filter fun x => !p x) = m) := hide (by rw [← kept_map, kept_all hall, map_range_getD _ _ _ (Nat.le_refl _)]; simp)
  have HM := hide hin
  have hv : ∃ a n c, v = .slice a n c := by obtain ⟨a, c, rfl, -⟩ := inMat_matT hin; exact ⟨a, _, c, rfl⟩
  obtain ⟨a, n, c, rfl⟩ := hv
  rw [hno] at HI
  clear hin hok hp hno hall eg
  go_enter Try.func137, Try.ntmps137
  go_wp2_with (go_at_call 131; refine HI.out.mono ?_; rintro e w9 ⟨rfl, hb9⟩; have HB9 := hide hb9; clear hb9)
  go_ret
  exact ⟨_, rfl, by rw [HF.out]; exact matT_below HM.out HB9.out, ⟨HB9.out.os, HB9.out.tape, HB9.out.output, HB9.out.size, fun k hk => HB9.out.block k (by omega)⟩⟩
set_option maxRecDepth 100000 in
set_option maxHeartbeats 4000000 in
theorem delRows_yes (v : Value) (m : List (List Int)) (g : Nat) (cb : Array Value) (ok : List Int → Prop) (p : List Int → Bool) (lo : Nat) (W0 w : World) (eg : ∀ args w, (callFunc g args).run Try.prog w = .ok (.enter g args) w) (hin : MatT w lo v m) (hW : W0.heap.size ≤ lo) (hbW : Below W0.heap.size W0 w) (hok : ∀ r ∈ m, ok r) (hp : RowPred g cb ok p W0)
    (k : Nat) (hk : k < m.length) (hyes : idxP p m = k) (hat : p (m.getD k []) = true) (hall : ∀ t, t < k → p (m.getD t []) = false) :
    Calls Try.prog 137 #[v, .func (.func g) #[] cb] w (RowsRes lo (m.filter fun x => !p x) w) := by
  have HI := hide (idxRows_any v m g cb ok p w eg (inMat_matT hin) hok (rowPred_mono hp hbW))
  rw [hyes] at HI
  obtain ⟨vs, hv, hrows⟩ := hin
  obtain ⟨gb, cap, rfl, hbg, hgl, hcap, hmax, -, -⟩ := own_some hv (by omega)
  have HV := hide hv; have HR := hide hrows; have HP := hide hp; have HOK := hide hok
  have HLEN := hide (delRows_len p m)
  have HMAP := hide (kept_map p m)
  have hvl : vs.length = m.length := by have := hv.1; omega
  have hK : kept p m (k + 1) = List.range k := by rw [kept_no hat, kept_all hall]
  have HK0 : Hid ((kept p m (k + 1)).length = k ∧ vs.take k = (kept p m (k + 1)).map fun t => vs.getD t undef) := hide (by
    rw [hK]; exact ⟨by simp, (map_range_getD _ _ _ (by omega)).symm⟩)
  have HBW := hide hbW
  obtain ⟨n, hn⟩ : ∃ n, n = m.length := ⟨_, rfl⟩
  have HN := hide hn
  rw [← hn] at HI HV hk hvl hcap ⊢
  unfold maxLen at hmax
  have HBG := hide hbg
  have hne1 : ((k : Int) == -1) = false := beq_eq_false_iff_ne.2 (by omega)
  clear hv hrows hp hok hyes hat hall hK hn hbW
  go_enter Try.func137, Try.ntmps137
  go_wp2_with (go_at_call 131; refine HI.out.mono ?_; rintro e w9 ⟨rfl, hb9⟩; have HB9 := hide hb9; clear hb9)
  have HL9 : Hid (Below lo w w9) := hide ⟨HB9.out.os, HB9.out.tape, HB9.out.output, HB9.out.size, fun k hk => HB9.out.block k (by omega)⟩
  go_loopw [5, 6, 7] (fun s5 s6 _ w' => ∃ (j : Nat) (ys : List Value), s6 = .int .i64 j ∧ s5 = .int .i64 (kept p m j).length ∧ j ≤ n ∧ (kept p m j).length < j ∧ w'.ownsRow lo 24 1 (.slice (some ⟨gb, 0, none⟩) n cap) n ys ∧ ys.take (kept p m j).length = ((kept p m j).map fun t => vs.getD t undef) ∧ (∀ t, j ≤ t → t < n → ys.getD t undef = vs.getD t undef) ∧
    (∀ t, (h : t < m.length) → w'.ownsRow lo 3 1 (vs.getD t undef) m[t].length (ints m[t])) ∧ Below lo w w') (fun _ s6 _ _ => n - (intOf s6).toNat)
  case atStart => exact ⟨k + 1, vs, by go_num, by rw [HK0.out.1], by omega, by rw [HK0.out.1]; omega, own_below HV.out HB9.out, by rw [HK0.out.1]; exact HK0.out.2, fun _ _ _ => rfl, fun t h => own_below (HR.out t h) HB9.out, HL9.out⟩
  case round =>
    clear HL9 HB9 HK0
    obtain ⟨j, ys, rfl, rfl, hj, hij, hown, htake, hrest, hrw, hb⟩ := hrel
    have HO := hide hown; have HT := hide htake; have HRE := hide hrest; have HRW := hide hrw; have HB := hide hb
    have HKY := hide fun h => kept_yes (p := p) (m := m) (j := j) h
    have HKN := hide fun h => kept_no (p := p) (m := m) (j := j) h
    obtain ⟨i, hi⟩ : ∃ i, i = (kept p m j).length := ⟨_, rfl⟩
    have HII := hide hi
    rw [← hi] at HT hij ⊢
    clear hown htake hrest hrw hb hi
    by_cases hlt : j < n
    · have hjm : j < m.length := by rw [← HN.out]; exact hlt
      have hltI : (j : Int) < n := by omega
      have hsz := HB.out.size
      have hx := cell_held HO.out hlt
      rw [HRE.out j (Nat.le_refl _) hlt] at hx
      have HROWj := hide (HRW.out j hjm)
      obtain ⟨a, c, hu⟩ := own_slice HROWj.out
      have hmj : m.getD j [] = m[j] := by rw [List.getD_eq_getElem?_getD, List.getElem?_eq_getElem hjm]; rfl
      have HBO : Hid (Below W0.heap.size W0 wr) := hide (HBW.out.trans (HB.out.mono hW))
      have HCALL := hide (HP.out m[j] (vs.getD j undef) wr (HOK.out _ (List.getElem_mem hjm)) HBO.out (inRow_own HROWj.out))
      rw [hmj] at HKY HKN
      have HMJ : Hid (m[j].length = m[j].length) := hide rfl
      obtain ⟨u, hue⟩ : ∃ u, u = vs.getD j undef := ⟨_, rfl⟩
      have HU := hide hue
      rw [← hue] at hx HCALL hu
      obtain ⟨q, hq⟩ : ∃ q, q = p m[j] := ⟨_, rfl⟩
      rw [← hq] at HKY HKN HCALL
      obtain ⟨L, hL⟩ : ∃ L, L = m[j].length := ⟨_, rfl⟩
      rw [← hL] at hu
      clear hq hmj hue hL HMJ
      subst hu
      cases q with
      | true =>
        have HK2 := hide (HKN.out rfl)
        clear HKY HKN
        go_wp2_with (go_at_fn g; refine HCALL.out.mono ?_; rintro e w9 ⟨rfl, hb9⟩; have HB9 := hide hb9; clear hb9)
        go_roundw
        case rel =>
          refine ⟨j + 1, ys, by go_num, by rw [HK2.out, ← HII.out], by omega, by rw [HK2.out, ← HII.out]; omega, own_below HO.out HB9.out, by rw [HK2.out, ← HII.out]; exact HT.out, fun t h1 h2 => HRE.out t (by omega) h2, fun t h => own_below (HRW.out t h) HB9.out, ?_⟩
          exact HB.out.trans (HB9.out.mono (by omega))
        case measure => simp [intOf]; omega
      | false =>
        have HK2 := hide (HKY.out rfl)
        clear HKY HKN
        go_wp2_with (go_at_fn g; refine HCALL.out.mono ?_; rintro e w9 ⟨rfl, hb9⟩; have HB9 := hide hb9; clear hb9; have HO9 := hide (own_below HO.out HB9.out); have hin' : i < n := (by omega); have hc9 := cell_held HO9.out hin'; have hf9 := HO9.out.frozenAt i; have HS := hide (HO9.out.stored i (.slice a L c)))
        go_roundw
        case rel =>
          have hyl : ys.length = n := by have := HO.out.1; omega
          have hb9 : Below lo w w9 := HB.out.trans (HB9.out.mono (by omega))
          refine ⟨j + 1, ys.set i (.slice a L c), by go_num, by rw [HK2.out, List.length_append, ← HII.out]; go_num, by omega, by rw [HK2.out, List.length_append, ← HII.out]; simp; omega, HS.out.1, ?_, fun t h1 h2 => ?_, fun t h => ?_, hb9.setCell (p := ⟨gb, i, none⟩) HBG.out _⟩
          · rw [HK2.out, List.length_append, ← HII.out, List.map_append, ← HT.out, List.map_cons, List.map_nil, ← HU.out]
            simp only [List.length_cons, List.length_nil]
            rw [Nat.zero_add, List.take_succ_eq_append_getElem (by rw [List.length_set]; omega), List.take_set_of_le (Nat.le_refl _), List.getElem_set_self]
          · rw [List.getD_eq_getElem?_getD, List.getElem?_set_ne (by omega), ← List.getD_eq_getElem?_getD]
            exact HRE.out t (by omega) h2
          · have h0 := own_below (HRW.out t h) HB9.out
            exact h0.kept HS.out.2 (own_types h0 HO9.out (by decide))
        case measure => simp [intOf]; omega
    · obtain rfl : j = n := by omega
      have hcl : ∀ ty, (Builtin.clear_ #[22] ty #[.slice (some ⟨gb, i, none⟩) (j - i) (cap - i)]).run Try.prog wr = .ok (.tuple #[]) (wr.setCells gb i (List.replicate (j - i) (.slice none 0 0))) :=
        fun ty => Lib.run_clear_slice wr _ _ ty _ Try.underlying22 zeroInts_run rfl rfl gb i _ _ (by omega) (fun t ht => by rw [cell_held HO.out (show i + t < j by omega)]; rfl) (fun t ht => HO.out.frozenAt _)
      have HM2 := hide (own_setCells (List.replicate (j - i) (Value.slice none 0 0)) i wr ys HO.out)
      obtain ⟨w2, hw2⟩ : ∃ w2, w2 = wr.setCells gb i (List.replicate (j - i) (Value.slice none 0 0)) := ⟨_, rfl⟩
      rw [← hw2] at HM2 hcl
      clear hw2
      go_wp2
      go_ret
      obtain ⟨zs, h1, h2, h3⟩ := HM2.out
      have hc := own_cut h1 (show i ≤ j by omega)
      rw [h2, HT.out] at hc
      have hKm : kept p m j = kept p m m.length := by rw [← HN.out]
      refine ⟨_, rfl, ⟨(kept p m j).map fun t => vs.getD t undef, ?_, fun t ht => ?_⟩, ?_⟩
      · rw [HLEN.out, ← hKm, ← HII.out]; exact hc
      · have ht' : t < (kept p m j).length := by rw [hKm, ← HLEN.out]; exact ht
        have hlt' := kept_lt (List.getElem_mem ht')
        have hm : (kept p m j)[t] < m.length := by rw [← HN.out]; exact hlt'
        have e1 : ((kept p m j).map fun t => vs.getD t undef).getD t undef = vs.getD (kept p m j)[t] undef := by
          rw [List.getD_eq_getElem?_getD, List.getElem?_eq_getElem (by rw [List.length_map]; exact ht'), Option.getD_some, List.getElem_map]
        have e2 : (m.filter fun x => !p x)[t] = m[(kept p m j)[t]] := by
          have h0 : ((kept p m m.length).map (fun t => m.getD t []))[t]'(by rw [HMAP.out]; exact ht) = (m.filter fun x => !p x)[t] := by
            congr 1
          rw [← h0, List.getElem_map]
          simp only [← hKm]
          rw [List.getD_eq_getElem?_getD, List.getElem?_eq_getElem hm]; rfl
        rw [e1, e2]
        have h0 := HRW.out _ hm
        exact h0.kept h3 (own_types h0 HO.out (by decide))
      · exact ⟨h3.os.trans HB.out.os, h3.tape.trans HB.out.tape, h3.output.trans HB.out.output, Nat.le_trans HB.out.size h3.size, fun t ht => by
          have := HBG.out
          rw [h3.block t (by have := HB.out.size; omega) (by simp; omega)]; exact HB.out.block t ht⟩
theorem delRows_any (v : Value) (m : List (List Int)) (g : Nat) (cb : Array Value) (ok : List Int → Prop) (p : List Int → Bool) (lo : Nat) (W0 w : World) (eg : ∀ args w, (callFunc g args).run Try.prog w = .ok (.enter g args) w) (hin : MatT w lo v m) (hlo : lo ≤ w.heap.size) (hW : W0.heap.size ≤ lo) (hbW : Below W0.heap.size W0 w) (hok : ∀ r ∈ m, ok r) (hp : RowPred g cb ok p W0) :
    Calls Try.prog 137 #[v, .func (.func g) #[] cb] w (RowsRes lo (m.filter fun x => !p x) w) := by
  rcases idxP_spec p m with ⟨h1, h2⟩ | ⟨k, hk, h1, h2, h3⟩
  · exact delRows_no v m g cb ok p lo w eg hin hlo hok (rowPred_mono hp hbW) h1 h2
  · exact delRows_yes v m g cb ok p lo W0 w eg hin hW hbW hok hp k hk h1 h2 h3
end Go.Proofs.Ytcliiefedmiokaa
/-
  slices.Clone at integers; sumsWithout of the program; slices with their capacity.
-/
namespace Go.Proofs.Ytcliiefedmiokaa
open Go.RowKit

theorem clone_any (v : Value) (r : List Int) (w : World) (hin : InRow w v r) (hn : r.length ≤ 2000000) :
    Calls Try.prog 120 #[v] w (IntsRes r w) := by
  obtain ⟨a, c, rfl, hm, hp⟩ := hin
  by_cases h0 : r.length = 0
  · obtain rfl : r = [] := List.eq_nil_of_length_eq_zero h0
    cases a with
    | none =>
      refine (Try.slices_Clone_int_nil 0 c w).mono ?_
      rintro e w' ⟨rfl, rfl⟩
      exact intsRes_nil (Below.refl _ _)
    | some x =>
      refine (Try.slices_Clone_int_zero x c w).mono ?_
      rintro e w' ⟨v', rfl, ho, -, hb⟩
      exact ⟨v', rfl, ho, hb⟩
  · obtain ⟨g, o, rfl, -, hc⟩ := hp.resolve_left h0
    refine (Try.slices_Clone_int g o r.length c r w (Nat.le_refl _) (by omega) (fun j hj => ?_)).mono ?_
    · rw [hc j hj, List.getD_eq_getElem?_getD, List.getElem?_eq_getElem hj]; rfl
    rintro e w' ⟨v', rfl, ho, -, hb⟩
    rw [List.take_length] at ho
    exact ⟨v', rfl, ho, hb⟩
/-- What has been left behind k cells of the row. -/
def subF (c row : List Int) (k x : Nat) : Int := c.getD x 0 - if x < k then row.getD x 0 else 0
theorem subF_zero (c row : List Int) : tabL c.length (subF c row 0) = c := by
  rw [show tabL c.length (subF c row 0) = tabL c.length (fun x => c.getD x 0) from tabL_congr fun i _ => by rw [subF, if_neg (Nat.not_lt_zero _)]; simp]
  exact tabL_self c
theorem subF_all (c row : List Int) (k : Nat) (h : c.length ≤ k) : tabL c.length (subF c row k) = subL c row :=
  tabL_congr fun i hi => by rw [subF, if_pos (by omega)]
set_option maxHeartbeats 1000000 in
theorem sumsWithout_any (vc vr : Value) (c row : List Int) (w : World) (hc : InRow w vc c) (hr : InRow w vr row) (hl : row.length = c.length) (hn : c.length ≤ 5) (hM : ∀ x, x < c.length → -1000 ≤ c.getD x 0 ∧ c.getD x 0 ≤ 1000) (hR : ∀ x, x < c.length → -1000 ≤ row.getD x 0 ∧ row.getD x 0 ≤ 1000) :
    Calls Try.prog 141 #[vc, vr] w (IntsRes (subL c row) w) := by
  have HCL := hide (clone_any vc c w hc (by omega))
  have HM := hide hM; have HRR := hide hR
  obtain ⟨a, ca, rfl, hm, hp⟩ := hr
  unfold maxLen at hm
  have HP := hide fun h : row.length ≠ 0 => hp.resolve_left h
  have HZ := hide (subF_zero c row); have HA := hide (subF_all c row)
  have HX : Hid (∀ x, (h : x < row.length) → row.getD x 0 = row[x]) := hide fun x h => by rw [List.getD_eq_getElem?_getD, List.getElem?_eq_getElem h]; rfl
  rw [hl] at hm ⊢
  have HLL : Hid (row.length = c.length) := hide hl
  obtain ⟨C, hC⟩ : ∃ C, C = c.length := ⟨_, rfl⟩
  have HC := hide hC
  rw [← hC] at HZ HA hm hn HM HRR HLL ⊢
  clear hc hM hR hp hC hl
  go_enter Try.func141, Try.ntmps141
  go_wp2_with fail
  refine HCL.out.mono ?_
  rintro e w1 ⟨v1, rfl, ho, hb⟩
  rw [← HC.out] at ho
  obtain ⟨xa, xc, rfl⟩ := own_slice ho
  have HO := hide ho; have HB := hide hb
  clear ho hb
  go_wp2
  go_loopw [12] (fun i w' => ∃ k : Nat, k ≤ C ∧ i = .int .i64 k ∧ w'.ownsRow w.heap.size 3 1 (.slice xa C xc) C (ints (tabL C (subF c row k))) ∧ Below w.heap.size w w') (fun i _ => C - (intOf i).toNat)
  case atStart => exact ⟨0, Nat.zero_le _, rfl, by rw [HZ.out]; exact HO.out, HB.out⟩
  case round =>
    clear HO HB
    obtain ⟨k, hk, rfl, hown, hb⟩ := hrel
    have HO := hide hown; have HB := hide hb
    clear hb
    by_cases hlt : k < C
    · have hkr : k < row.length := by rw [HLL.out]; exact hlt
      obtain ⟨g, o, rfl, hg, hcell⟩ := HP.out (by omega)
      obtain ⟨g1, c1, he, hb1, -, -, -, -, -⟩ := own_some hown (by omega)
      cases he
      have hx := below_cell HB.out hg (hcell k hkr)
      rw [← HX.out k hkr] at hx
      have hc1 := cell_held HO.out hlt
      rw [tabL_held hlt, subF, if_neg (Nat.lt_irrefl k), Int.sub_zero] at hc1
      have hf := HO.out.frozenAt k
      have hm1 := HM.out k hlt
      have hm2 := HRR.out k hlt
      have HS := HO.out.stored k (.int .i64 (c.getD k 0 - row.getD k 0))
      rw [ints_set, tabL_set] at HS
      rw [show (tabL C fun t => if t = k then c.getD k 0 - row.getD k 0 else subF c row k t) = tabL C (subF c row (k + 1)) from tabL_congr fun i _ => by
        unfold subF
        by_cases e : i = k
        · subst e; rw [if_pos rfl, if_pos (Nat.lt_succ_self _)]
        · rw [if_neg e]
          by_cases e' : i < k
          · rw [if_pos e', if_pos (by omega)]
          · rw [if_neg e', if_neg (by omega)]] at HS
      have HS := hide HS
      obtain ⟨x1, hx1⟩ : ∃ x1, x1 = c.getD k 0 := ⟨_, rfl⟩
      obtain ⟨x2, hx2⟩ : ∃ x2, x2 = row.getD k 0 := ⟨_, rfl⟩
      rw [← hx1] at hc1 hm1 HS
      rw [← hx2] at hx hm2 HS
      obtain ⟨hm11, hm12⟩ := hm1
      obtain ⟨hm21, hm22⟩ := hm2
      clear hx1 hx2 hown hcell
      go_wp2
      go_roundw
      case rel => exact ⟨k + 1, by omega, by go_num, HS.out.1, HB.out.setCell hb1 _⟩
      case measure => simp [intOf]; omega
    · obtain rfl : k = C := by omega
      have HF := hide (HA.out k (Nat.le_refl _))
      rw [HF.out] at HO
      clear hown
      go_wp2
      go_ret
      exact ⟨_, rfl, by rw [subL_len, ← HC.out]; exact HO.out, HB.out⟩

/-- The slice reads as r, and its capacity is no less than its length. -/
def RowC (w : World) (v : Value) (r : List Int) : Prop := InRow w v r ∧ ∃ a c, v = .slice a r.length c ∧ r.length ≤ c ∧ c ≤ maxLen
theorem rowC_below {w w' : World} {v : Value} {r : List Int} (h : RowC w v r) (hb : Below w.heap.size w w') : RowC w' v r := ⟨inRow_below h.1 hb, h.2⟩
theorem rowC_own {w : World} {base : Nat} {v : Value} {r : List Int} (h : w.ownsRow base 3 1 v r.length (ints r)) : RowC w v r := by
  refine ⟨inRow_own h, ?_⟩
  rcases h.2 with ⟨rfl, h0⟩ | ⟨g, cap, cur, rfl, hbg, hg, hc, hm, _⟩
  · exact ⟨none, 0, by rw [h0], by omega, Nat.zero_le _⟩
  · exact ⟨_, _, rfl, hc, hm⟩
theorem rowC_tail {w : World} {g o n c : Nat} {x : Int} {r : List Int} (h : RowC w (.slice (some ⟨g, o, none⟩) n c) (x :: r)) : RowC w (.slice (if c = 1 then some ⟨g, o, none⟩ else some ⟨g, o + 1, none⟩) (n - 1) (c - 1)) r := by
  obtain ⟨⟨a, c', he, hm, hp⟩, a2, c2, he2, hl, hmx⟩ := h
  cases he; cases he2
  simp only [List.length_cons, Nat.add_sub_cancel] at hl hm ⊢
  refine ⟨⟨_, _, rfl, by omega, ?_⟩, _, _, rfl, by omega, by omega⟩
  obtain ⟨g', o', he', hg, hc⟩ := hp.resolve_left (by simp)
  cases he'
  by_cases h0 : r.length = 0
  · exact .inl h0
  · rw [if_neg (by omega)]
    refine .inr ⟨g, o + 1, rfl, hg, fun i hi => ?_⟩
    have := hc (i + 1) (by simp; omega)
    rw [List.getElem_cons_succ] at this
    rw [← this, show o + (i + 1) = o + 1 + i by omega]
end Go.Proofs.Ytcliiefedmiokaa
/-
  imageBy of the program: rows continued by a function that calls itself through a variable.
-/
namespace Go.Proofs.Ytcliiefedmiokaa
open Go.RowKit Go.Shelf

/-- A call of a function value that a slot holds. -/
theorem run_callv {P : Program} {Q : Exit → Act → World → Prop} {o : Oper} {a : Act} {w : World} {K : Act → World → Prop} {f : FuncId} {cb : Array Value} {x : Operand} {xs : Array Operand} {ts : Array TypeId} (ho : o.op = .call { callee := .value x, args := xs, argTypes := ts })
    (hx : a.eval x = .func (.func f) #[] cb) (eg : ∀ args w, (callFunc f args).run P w = .ok (.enter f args) w) (args : Array Value) (hxs : xs.map a.eval = args) (h : Calls P f (args ++ cb) w fun e w' => ∃ v, e = .returned v ∧ K (a.put o.dst v) w') : o.wp P a w K Q := by
  subst hxs
  unfold Oper.wp
  simp only [execOp, ho, resolve, hx, Deferred.ofValue]
  simp [invoke, eg, Oper.upon]
  refine Calls.mono h ?_
  rintro e w' ⟨v, rfl, hk⟩
  exact hk

/-- 'append([][]int{row}, rest...)'. -/
theorem exec_consMat {ρ : Operand → Value} {o : Oper} {w : World} {x y : Operand} {b lo0 hi0 lo hi : Nat} {v2 urow : Value} {row : List Int} {m2 : List (List Int)}
    (ho : o.op = .call { callee := .builtin .append, args := #[x, y], argTypes := #[22, 22] }) (hx : ρ x = .slice (some ⟨b, 0, none⟩) 1 1) (hy : ρ y = v2)
    (hown : w.ownsRow b 24 1 (.slice (some ⟨b, 0, none⟩) 1 1) 1 [urow]) (hrow : w.ownsRow lo0 3 1 urow row.length (ints row)) (hrk : ∀ k, urow.ownBlock = some k → k < hi0)
    (hm : OwnMat w lo hi v2 m2) (h1 : lo0 ≤ hi0) (h2 : hi0 ≤ lo) (h3 : hi0 ≤ b) (h4 : hi ≤ w.heap.size) (h5 : m2.length ≤ 1000) (h6 : b < w.heap.size) :
    ∃ v' w', (execOp ρ o).run Try.prog w = .ok (.value v') w' ∧ OwnMat w' lo0 w'.heap.size v' (row :: m2) ∧ w.grownBy w' (some b) := by
  obtain ⟨vs, hv, hvh, hvr, hva⟩ := hm
  have hvl : vs.length = m2.length := by have := hv.1; omega
  obtain ⟨i0, hi0', hz0, hz1, hz2⟩ := info_parts Try.infoInts
  have key : ∃ v' w', (Builtin.append_ #[22, 22] o.type #[.slice (some ⟨b, 0, none⟩) 1 1, v2]).run Try.prog w = .ok v' w' ∧ w'.ownsRow b 24 1 v' (1 + m2.length) ([urow] ++ vs) ∧ w.grownBy w' (some b) := by
    rcases hv.2 with ⟨rfl, h0⟩ | ⟨g, cap, cur, rfl, hbg, hg, hc, hmx, hcs, htk⟩
    · have hvs : vs = [] := List.eq_nil_of_length_eq_zero (by omega)
      refine ⟨_, w, run_append_owned_none (P := Try.prog) w b 22 o.type 24 i0 1 Try.underlying22 hi0' _ 1 [urow] hown, ?_, ⟨rfl, rfl, rfl, Nat.le_refl _, fun _ _ _ => rfl⟩⟩
      rw [hvs, h0]; exact hown
    · obtain ⟨v', w', hr, g1, g2, -⟩ := run_append_own (P := Try.prog) w b 22 o.type 24 i0 (.slice none 0 0) 1 24 Try.underlying22 hi0' hz0 hz1 hz2 rfl (by decide) _ 1 [urow] hown ⟨g, 0, none⟩ m2.length cap vs (by omega) (fun j u hj => by
          rw [addr_add, Nat.zero_add]
          have hj' : j < m2.length := by have := (List.getElem?_eq_some_iff.1 hj).1; omega
          rw [hv.cellAt j (by omega), hj]) (fun u hu => by
          obtain ⟨j, hj, rfl⟩ := List.getElem_of_mem hu
          obtain ⟨q1, -⟩ := hvr j (by omega)
          rw [List.getD_eq_getElem?_getD, List.getElem?_eq_getElem hj, Option.getD_some] at q1
          obtain ⟨a, c, e⟩ := own_slice q1
          rw [e]; rfl) (by unfold maxLen; omega) (by omega) (by omega)
      exact ⟨v', w', hr, g1, g2⟩
  obtain ⟨v', w', hr, g1, g2⟩ := key
  have hsz := g2.size
  have hkeep : ∀ {lo n : Nat} {u : Value} {xs : List Value}, w.ownsRow lo 3 1 u n xs → w'.ownsRow lo 3 1 u n xs := fun {lo n u xs} h => h.kept g2 (by
    have := own_types h hown (by decide)
    simpa [Value.ownBlock] using this)
  refine ⟨v', w', ?_, ⟨urow :: vs, ?_, fun k e => (g1.lt k e).2, fun i h => ?_, fun i j hij hj => ?_⟩, g2⟩
  · unfold execOp
    simp only [ho, resolve, invoke, builtin, Sem.run_bind, Sem.run_pure, Result.andThen_ok, List.map_toArray, List.map_cons, List.map_nil, hx, hy, hr]
  · have := own_base (base' := lo0) g1 (by omega)
    rw [List.length_cons, Nat.add_comm]; exact this
  · cases i with
    | zero => exact ⟨hkeep hrow, fun k hk => by have := hrk k hk; omega⟩
    | succ i =>
      have hi' : i < m2.length := by simpa using h
      obtain ⟨q1, q2⟩ := hvr i hi'
      exact ⟨own_base (hkeep q1) (by omega), fun k hk => by have := q2 k hk; omega⟩
  · cases j with
    | zero => omega
    | succ j =>
      have hj' : j < m2.length := by simpa using hj
      cases i with
      | zero =>
        show urow.ownBlock = none ∨ urow.ownBlock ≠ (vs.getD j undef).ownBlock
        cases hk : urow.ownBlock with
        | none => exact .inl rfl
        | some k =>
          refine .inr fun e => ?_
          have q1 := hrk k hk
          have q2 := ((hvr j hj').1.lt k e.symm).1
          omega
      | succ i => exact hva i j (by omega) hj'

/-- What is asked of the choice of the next row. -/
structure Choice (g : Nat) (ch : List Int → List Int → List Int) (Inv : List Int → List Int → Prop) : Prop where
  enters : ∀ args w, (callFunc g args).run Try.prog w = .ok (.enter g args) w
  calls : ∀ (a : Int) (r c : List Int) (vr vc : Value) (w : World), Inv (a :: r) c → RowC w vr (a :: r) → InRow w vc c → Calls Try.prog g #[vr, vc] w (IntsRes (ch (a :: r) c) w)
  next : ∀ (a : Int) (r c : List Int), Inv (a :: r) c → r.length ≤ 4 ∧ c.length ≤ 5 ∧ (ch (a :: r) c).length = c.length ∧ Inv r (subL c (ch (a :: r) c)) ∧ (∀ x, x < c.length → -1000 ≤ c.getD x 0 ∧ c.getD x 0 ≤ 1000) ∧ ∀ x, x < c.length → -1000 ≤ (ch (a :: r) c).getD x 0 ∧ (ch (a :: r) c).getD x 0 ≤ 1000

/-- A list of one row, made behind B. -/
def oneRow (B : Nat) (u0 : Value) : FactP := fun u w2 => ∃ b, u = .slice (some ⟨b, 0, none⟩) 1 1 ∧ B ≤ b ∧ b < w2.heap.size ∧ w2.ownsRow b 24 1 (.slice (some ⟨b, 0, none⟩) 1 1) 1 [u0]
theorem stable_oneRow (B : Nat) (u0 : Value) : StableP (oneRow B u0) := fun _ _ _ hb h => by
  obtain ⟨b, h1, h2, h3, h4⟩ := h
  exact ⟨b, h1, h2, Nat.lt_of_lt_of_le h3 hb.size, own_below h4 hb⟩
def ownI (B : Nat) (r : List Int) : FactP := fun u w2 => w2.ownsRow B 3 1 u r.length (ints r)
theorem stable_ownI (B : Nat) (r : List Int) : StableP (ownI B r) := fun _ _ _ hb h => own_below h hb
def ownM (B : Nat) (m : List (List Int)) : FactP := fun u w2 => ∃ lo hi, B ≤ lo ∧ hi ≤ w2.heap.size ∧ OwnMat w2 lo hi u m
theorem stable_ownM (B : Nat) (m : List (List Int)) : StableP (ownM B m) := fun _ _ _ hb h => by
  obtain ⟨lo, hi, h1, h2, h3⟩ := h
  exact ⟨lo, hi, h1, Nat.le_trans h2 hb.size, ownMat_below h3 hb⟩
theorem exec_build1 {ρ : Operand → Value} {o : Oper} {w : World} {x : Operand} {a : Option Addr} {n c : Nat} (ho : o.op = .buildSlice 22 1 #[(0, x)]) (hx : ρ x = .slice a n c) :
    (execOp ρ o).run Try.prog w = .ok (.value (.slice (some ⟨w.heap.size, 0, none⟩) 1 1)) (w.alloc (.cells #[.slice a n c] 24)) := by
  unfold execOp
  simp only [ho]
  go_simp

theorem setRow_size (w : World) (g : Nat) (cs : Array Value) : (w.setRow g cs).heap.size = w.heap.size := by simp [World.setRow]
theorem setRow_below (B : Nat) (w : World) (g : Nat) (cs : Array Value) (h : B ≤ g) : Below B w (w.setRow g cs) :=
  ⟨rfl, rfl, rfl, by rw [setRow_size]; exact Nat.le_refl _, fun k hk => setRow_other w g k cs (by omega)⟩
theorem cell_setRow_ne (w : World) (g k : Nat) (cs : Array Value) (h : k ≠ g) : (w.setRow g cs).cell? ⟨k, 0, none⟩ = w.cell? ⟨k, 0, none⟩ := by
  unfold World.cell?
  dsimp only
  rw [setRow_other w g k cs h]
end Go.Proofs.Ytcliiefedmiokaa
/-
  l04Gap, WorstColumns, Exists, SlackOf of the model.
-/
namespace Go.Proofs.Ytcliiefedmiokaa
open Go.RowKit

theorem boundsL_gap {r c : List Int} {i : Nat} (h : i < (boundsL r c).length) : ((conjL r c.length).take (i + 1)).sum - ((sortD c).take (i + 1)).sum = (boundsL r c)[i].2 - (boundsL r c)[i].1 := by
  have : (boundsL r c)[i] = _ := tabB_at h
  rw [this]
end Go.Proofs.Ytcliiefedmiokaa
/-
  BuildImage of the model.
-/
namespace Go.Proofs.Ytcliiefedmiokaa
open Go.RowKit

theorem existsOf_sums {r c : List Int} (h : existsOf r c = true) : sumsOk r c = true := by
  rw [existsOf, Bool.and_eq_true] at h; exact h.1
theorem noBad_at {m : Int} {r : List Int} (h : r.any (badB m) = false) {k : Nat} (hk : k < r.length) : 0 ≤ r[k] ∧ r[k] ≤ m := by
  rw [List.any_eq_false] at h
  have := h _ (List.getElem_mem hk)
  simp only [badB, Bool.or_eq_true, decide_eq_true_eq, not_or] at this
  omega
theorem mid_start {r c : List Int} (h : sumsOk r c = true) : Mid100 0 c := by
  obtain ⟨hr, hc, -, hcb, -⟩ := sumsOk_yes h
  refine ⟨hc.2, fun x hx => ?_⟩
  rw [List.getD_eq_getElem?_getD, List.getElem?_eq_getElem hx, Option.getD_some]
  have := noBad_at hcb hx
  omega
theorem mid_sub {m : Int} {c : List Int} {n : Nat} (h : Mid100 m c) : Mid100 (m + 1) (subL c (topRow c n)) := by
  obtain ⟨h1, h2⟩ := h
  refine ⟨by rw [subL_len]; exact h1, fun x hx => ?_⟩
  rw [subL_len] at hx
  rw [subL_top, tabL_getD hx]
  have := h2 x hx
  rcases top01 c n x with e | e <;> rw [e] <;> omega
theorem mid_mono {m m' : Int} {c : List Int} (h : Mid100 m c) (hm : m ≤ m') : Mid100 m' c := ⟨h.1, fun x hx => by have := h.2 x hx; omega⟩
theorem greedy_step {r : List Int} {k : Nat} (hk : k < r.length) {s : Nat} (hs : r[k] = s) (l : List Int) : imgL greedyCh (r.drop k) l = topRow l s :: imgL greedyCh (r.drop (k + 1)) (subL l (topRow l s)) := by
  rw [List.drop_eq_getElem_cons hk, imgL, greedyCh, List.headD_cons, hs]; rfl

end Go.Proofs.Ytcliiefedmiokaa
/-
  restExists, the predicate of rowsAt, rowsAt, leastRow of the program.
-/
namespace Go.Proofs.Ytcliiefedmiokaa
open Go.RowKit Go.Shelf

theorem bitRows_rowsL (C : Nat) (hC : 1 ≤ C ∧ C ≤ 5) (s : Int) : bitRows C s (2 ^ C) = rowsLn C s := by
  obtain ⟨h1, h2⟩ := hC
  by_cases hs : 0 ≤ s ∧ s ≤ 5
  · obtain ⟨k, rfl⟩ : ∃ k : Nat, s = k := ⟨s.toNat, by omega⟩
    have hk : k ≤ 5 := by omega
    have key : ∀ C : Nat, C ≤ 5 → ∀ k : Nat, k ≤ 5 → bitRows C (k : Int) (2 ^ C) = rowsLn C (k : Int) := by decide +kernel
    exact key C h2 k hk
  · have e1 : rowsLn C s = [] := by
      rw [List.eq_nil_iff_forall_not_mem]
      intro row hr
      obtain ⟨g1, g2, g3⟩ := (mem_rowsL _ _ _).1 hr
      have h0 := sum_nonneg01 row g2
      have h5 : ∀ l : List Int, (∀ x ∈ l, x = 0 ∨ x = 1) → l.sum ≤ l.length := fun l => by
        induction l with
        | nil => intro _; exact Int.le_refl _
        | cons x l ih =>
          intro h
          have := ih fun y hy => h y (List.mem_cons_of_mem _ hy)
          have := h x List.mem_cons_self
          rw [List.sum_cons, List.length_cons]; omega
      have := h5 row g2
      omega
    have e2 : bitRows C s (2 ^ C) = [] := by
      unfold bitRows
      rw [List.map_eq_nil_iff, List.filter_eq_nil_iff]
      intro n _
      have : pop5 n ≤ 5 := by unfold pop5; omega
      simp only [decide_eq_true_eq]; omega
    rw [e1, e2]

set_option maxHeartbeats 400000 in
theorem restExists_any (va vb : Value) (r c : List Int) (w : World) (ha : InRow w va r) (hb : InRow w vb c) :
    Calls Try.prog 140 #[va, vb] w fun e w' => e = .returned (.bool (restB r c)) ∧ Below w.heap.size w w' := by
  have HE := hide (implExists_any va vb r c w ha hb); have HS := hide (sumsInRange_any vb c 0 w hb)
  obtain ⟨a, ca, rfl, hm, -⟩ := ha
  unfold maxLen at hm
  unfold restB
  cases r with
  | nil =>
    rw [if_pos rfl]
    clear hb HE
    simp only [List.length_nil] at hm ⊢
    go_enter Try.func140, Try.ntmps140
    go_wp2_with (go_at_call 90; refine HS.out.mono ?_; rintro e w1 ⟨rfl, b1⟩; have B1 := hide b1; clear b1)
    go_ret
    exact ⟨rfl, B1.out⟩
  | cons x l =>
    rw [if_neg (by simp)]
    clear hb HS
    obtain ⟨n, hn⟩ : ∃ n, n = (x :: l).length := ⟨_, rfl⟩
    have hn1 : 1 ≤ n := by rw [hn]; simp
    rw [← hn] at hm HE ⊢
    have hn0 : ((n : Int) == 0) = false := beq_eq_false_iff_ne.2 (by omega)
    clear hn
    go_enter Try.func140, Try.ntmps140
    go_wp2_with (go_at_call 122; refine HE.out.mono ?_; rintro e w1 ⟨rfl, b1⟩; have B1 := hide b1; clear b1)
    go_ret
    exact ⟨rfl, B1.out⟩

/-- Numbers that sumsWithout can reckon with. -/
def Mid1000 (c : List Int) : Prop := c.length ≤ 5 ∧ ∀ x, x < c.length → -1000 ≤ c.getD x 0 ∧ c.getD x 0 ≤ 1000
theorem mid_rowOf {n : Nat} {a : Int} {row : List Int} (h : RowOf n a row) (hn : n ≤ 5) : Mid1000 row := by
  refine ⟨by rw [h.1]; exact hn, fun x hx => ?_⟩
  have := rowOf_cell h (x := x) (by rw [← h.1]; exact hx)
  omega
set_option maxRecDepth 100000 in
set_option maxHeartbeats 1000000 in
theorem rowsPred_any (vo vc u : Value) (o c row : List Int) (qo qc : Nat) (w : World) (hqo : qo < w.heap.size) (hqc : qc < w.heap.size) (hvo : w.cell? ⟨qo, 0, none⟩ = some vo) (hvc : w.cell? ⟨qc, 0, none⟩ = some vc) (hO : InRow w vo o) (hC : InRow w vc c) (hU : InRow w u row) (hl : row.length = c.length) (hM : Mid1000 c) (hR : Mid1000 row) :
    Calls Try.prog 139 #[u, .pointer (some ⟨qo, 0, none⟩), .pointer (some ⟨qc, 0, none⟩)] w fun e w' => e = .returned (.bool (!restB o (subL c row))) ∧ Below w.heap.size w w' := by
  have HO := hide hO; have HC := hide hC; have HU := hide hU; have HL := hide hl; have HM := hide hM; have HR := hide hR; have HQO := hide hqo; have HQC := hide hqc; have HVO := hide hvo; have HVC := hide hvc
  obtain ⟨ao, no, co, hvo'⟩ : ∃ a n c, vo = .slice a n c := by obtain ⟨a, c, rfl, -⟩ := hO; exact ⟨a, _, c, rfl⟩
  obtain ⟨ac, nc, cc, hvc'⟩ : ∃ a n c, vc = .slice a n c := by obtain ⟨a, c, rfl, -⟩ := hC; exact ⟨a, _, c, rfl⟩
  obtain ⟨au, nu, cu, hu'⟩ : ∃ a n c, u = .slice a n c := by obtain ⟨a, c, rfl, -⟩ := hU; exact ⟨a, _, c, rfl⟩
  obtain ⟨b, hb⟩ : ∃ b, b = restB o (subL c row) := ⟨_, rfl⟩
  have HBB := hide hb
  rw [← hb]
  clear hO hC hU hl hM hR hqo hqc hvo hvc hb
  subst hvo' hvc' hu'
  go_enter Try.func139, Try.ntmps139
  go_wp2
  obtain ⟨fs, hfs⟩ : ∃ fs : List FactP, fs = [isV (.slice ao no co), isV (.slice ac nc cc), isV (.slice au nu cu), ownI w.heap.size (subL c row), isV (.bool b), isV (.bool (!b))] := ⟨_, rfl⟩
  have hst : ∀ f ∈ fs, StableP f := by
    rw [hfs]; intro f hf
    simp only [List.mem_cons, List.not_mem_nil, or_false] at hf
    rcases hf with rfl | rfl | rfl | rfl | rfl | rfl <;> first | exact stable_v _ | exact stable_ownI _ _
  subst hfs
  have hS1 : ∀ (w2 w3 : World), Below w.heap.size w.drew w2 → Below w2.heap.size w2 w3 → Below w.heap.size w.drew w3 := fun w2 w3 h k => h.trans (k.mono h.size)
  have hS0 : ∀ w2 : World, Below w.heap.size w.drew w2 → Below w.heap.size w w2 := fun w2 h => (below_drew (Below.refl _ w)).trans h
  refine wp_region_tail (S := fun w2 => Below w.heap.size w.drew w2) [isV (.slice ao no co), isV (.slice ac nc cc), isV (.slice au nu cu), ownI w.heap.size (subL c row), isV (.bool b), isV (.bool (!b))] [(0, .slice au nu cu), (1, .pointer (some ⟨qo, 0, none⟩)), (2, .pointer (some ⟨qc, 0, none⟩))] _ _ 6 (by kernel_rfl) rfl rfl (by kernel_rfl) (by kernel_rfl) rfl (by kernel_rfl) ?base (Below.refl _ _) ?ob rfl ?fin
  case base =>
    intro t v ht
    simp only [List.lookup_cons, List.lookup_nil] at ht
    repeat' split at ht
    all_goals first | (cases ht; done) | (obtain rfl := Option.some.inj ht; rename_i hh; obtain rfl := eq_of_beq hh; rfl)
  case ob =>
    exact ⟨obt_one (.slice ao no co) rfl rfl (srt_b 1 rfl) (fun ρ w2 hS hx => by have hv := below_cell (hS0 _ hS) HQO.out HVO.out; go_simp),
      obt_one (.slice ac nc cc) rfl rfl (srt_b 2 rfl) (fun ρ w2 hS hx => by have hv := below_cell (hS0 _ hS) HQC.out HVC.out; go_simp),
      obt_move (.slice au nu cu) rfl rfl rfl (srt_b 0 rfl),
      obt_call hst [.slice ac nc cc, .slice au nu cu] rfl Try.func141 (by kernel_rfl) (by kernel_rfl) rfl ⟨srt_j 1 rfl (by kernel_rfl) rfl, srt_j 2 rfl (by kernel_rfl) rfl, trivial⟩ (fun w2 hS => by
        refine (sumsWithout_any _ _ c row w2 (inRow_below HC.out (hS0 _ hS)) (inRow_below HU.out (hS0 _ hS)) HL.out HM.out.1 HM.out.2 (fun x hx => HR.out.2 x (by rw [HL.out]; exact hx))).mono ?_
        rintro e w3 ⟨u, rfl, ho, hb3⟩
        exact ⟨u, rfl, hS1 _ _ hS hb3, hb3, own_base ho hS.size⟩),
      obt_call_r hst 3 rfl Try.func140 (by kernel_rfl) (by kernel_rfl) rfl rfl (by kernel_rfl) (srt_j 0 rfl (by kernel_rfl) rfl) (fun v w2 hS hf => by
        refine (restExists_any _ v o (subL c row) w2 (inRow_below HO.out (hS0 _ hS)) (inRow_own hf)).mono ?_
        rintro e w3 ⟨rfl, hb3⟩
        rw [← HBB.out]
        exact ⟨_, rfl, hS1 _ _ hS hb3, hb3, rfl⟩),
      obt_one (.bool (!b)) rfl rfl (srt_j 4 rfl (by kernel_rfl) rfl) (fun ρ w2 hS hx => by go_simp),
      trivial⟩
  case fin =>
    intro a' w' h1 h2 h3 hS h4 K hK
    have hv : a'.eval (.tmp 10) = .bool (!b) := h4 5 10 rfl (by decide)
    refine tail_assign rfl hv ?_ K hK
    go_wp2
    exact bodyPost_ret (results_tmp rfl _ _ _) rfl ⟨congrArg Ending.returned (set_get (n := 11) h1 (by decide)), hS0 _ hS⟩
def rowsT (B : Nat) (m : List (List Int)) : FactP := fun u w2 => MatT w2 B u m
theorem stable_rowsT (B : Nat) (m : List (List Int)) : StableP (rowsT B m) := fun _ _ _ hb h => matT_below h hb
theorem rowsAt_filter (r c : List Int) (y : Nat) : ((rowsLn c.length (r.getD y 0)).filter fun x => !(!restB (r.eraseIdx y) (subL c x))) = rowsAtL r c y := by
  unfold rowsAtL
  congr 1
  funext x; rw [Bool.not_not]
set_option maxRecDepth 100000 in
set_option maxHeartbeats 2000000 in
theorem rowsAt_any (vr vc : Value) (r c : List Int) (y : Nat) (w : World) (hr : InRow w vr r) (hc : InRow w vc c) (hy : y < r.length) (hr5 : r.length ≤ 5) (hC1 : 1 ≤ c.length) (hM : Mid1000 c) :
    Calls Try.prog 123 #[vr, vc, .int .i64 y] w (RowsRes w.heap.size (rowsAtL r c y) w) := by
  have HR := hide hr; have HC := hide hc; have HM := hide hM
  have hbox := (Below.refl w.heap.size w).alloc (Nat.le_refl _) (.cells #[vc] 24)
  have HBX := hide hbox
  have HCX := hide (show (w.alloc (.cells #[vc] 24)).cell? ⟨w.heap.size, 0, none⟩ = some vc by simp [World.cell?_alloc_new])
  have HSZ := hide (show (w.alloc (.cells #[vc] 24)).heap.size = w.heap.size + 1 by simp)
  have HCL := hide (clone_any vr r _ (inRow_below hr hbox) (by omega))
  obtain ⟨xr, cr, rfl, hmr, hpr⟩ := hr
  obtain ⟨gr, or', rfl, hgr, hcr⟩ := hpr.resolve_left (by omega)
  have HRY := hide (hcr y hy); have HGR := hide hgr
  obtain ⟨xc, cc, rfl, hmc, -⟩ := hc
  unfold maxLen at hmr hmc
  have HDEL := hide fun (v : Value) (w' : World) (h : w'.ownsRow (w.heap.size + 1) 3 1 v r.length (ints r)) => (delete_any (w.heap.size + 1) v r y w' h hy : Calls Try.prog 136 #[v, .int .i64 y, .int .i64 ((y : Int) + 1)] w' _)
  obtain ⟨R, hRR⟩ : ∃ R, R = r.length := ⟨_, rfl⟩
  obtain ⟨C, hCC⟩ : ∃ C, C = c.length := ⟨_, rfl⟩
  have HRR := hide hRR; have HCC := hide hCC
  rw [← hRR] at hmr HR HCL HDEL hy ⊢
  rw [← hCC] at HCL
  rw [← hCC] at hmc HC HCX HBX HSZ hC1 ⊢
  clear hbox hpr hcr hgr hRR hCC hM
  go_enter Try.func123, Try.ntmps123
  go_wp2_with fail
  generalize hW : w.alloc (.cells #[Value.slice xc C cc] 24) = W1 at HSZ HBX HCX HCL ⊢
  clear hW
  refine HCL.out.mono ?_
  rintro e w2 ⟨v2, rfl, ho, hb⟩
  rw [HSZ.out] at ho
  have HO2 := hide ho; have HB2 := hide hb
  clear ho hb
  go_wp2_with fail
  refine (HDEL.out v2 w2 (by rw [HRR.out]; exact HO2.out)).mono ?_
  rintro e w3 ⟨vo, rfl, ho, hb⟩
  obtain ⟨ao, co, rfl⟩ := own_slice ho
  have HO3 := hide ho; have HB3 := hide hb
  clear ho hb HDEL HO2
  go_wp2
  have hs3 := HB3.out.size; have hs2 := HB2.out.size; have hs1 := HSZ.out
  have HB4 : Hid (Below (w.heap.size + 1) W1 (w3.alloc (Obj.cells #[Value.slice ao (r.eraseIdx y).length co] 24))) := hide (by
    have h2 := HB2.out
    rw [hs1] at h2
    exact (h2.trans HB3.out).alloc (by omega) _)
  have HVO := hide (show (w3.alloc (Obj.cells #[Value.slice ao (r.eraseIdx y).length co] 24)).cell? ⟨w3.heap.size, 0, none⟩ = some (Value.slice ao (r.eraseIdx y).length co) by simp [World.cell?_alloc_new])
  have HO4 := hide (inRow_own (own_below HO3.out ((Below.refl _ _).alloc (Nat.le_refl _) (Obj.cells #[Value.slice ao (r.eraseIdx y).length co] 24))))
  have HS4 := hide (show (w3.alloc (Obj.cells #[Value.slice ao (r.eraseIdx y).length co] 24)).heap.size = w3.heap.size + 1 by simp)
  have HVC : Hid ((w3.alloc (Obj.cells #[Value.slice ao (r.eraseIdx y).length co] 24)).cell? ⟨w.heap.size, 0, none⟩ = some (.slice xc C cc)) := hide (by
    rw [HB4.out.cell (p := ⟨w.heap.size, 0, none⟩) (Nat.lt_succ_self _)]; exact HCX.out)
  have HBA : Hid (Below w.heap.size w (w3.alloc (Obj.cells #[Value.slice ao (r.eraseIdx y).length co] 24))) := hide (HBX.out.trans (HB4.out.mono (Nat.le_succ _)))
  generalize w3.alloc (Obj.cells #[Value.slice ao (r.eraseIdx y).length co] 24) = W4 at HB4 HVO HO4 HS4 HVC HBA ⊢
  obtain ⟨qo, hqo⟩ : ∃ qo, qo = w3.heap.size := ⟨_, rfl⟩
  obtain ⟨qc, hqc⟩ : ∃ qc, qc = w.heap.size := ⟨_, rfl⟩
  rw [← hqo] at HVO HS4 ⊢
  have HQC : Hid (qc = w.heap.size) := hide hqc
  have HQ1 := hide (show qo < W4.heap.size by rw [HS4.out]; omega)
  have HQ2 := hide (show qc < W4.heap.size by rw [HS4.out]; omega)
  rw [← hqc] at HVC
  have HRV := below_cell HBA.out HGR.out HRY.out
  have HGR4 := hide (Nat.lt_of_lt_of_le HGR.out HBA.out.size)
  obtain ⟨a, ha⟩ : ∃ a, a = r[y] := ⟨_, rfl⟩
  have HA : Hid (a = r.getD y 0) := hide (by rw [ha, List.getD_eq_getElem?_getD, List.getElem?_eq_getElem (by rw [← HRR.out]; exact hy)]; rfl)
  rw [← ha] at HRV
  have HRV := hide HRV
  have HC4 := hide (inRow_below HC.out HBA.out)
  have HC5 : Hid (1 ≤ C ∧ C ≤ 5) := hide ⟨hC1, by rw [HCC.out]; exact HM.out.1⟩
  have HFIL := hide (rowsAt_filter r c y)
  rw [← HA.out, ← HCC.out] at HFIL
  clear HCL HB2 HB3 HO3 hs3 hs2 hs1 HB4 HSZ HBX HCX ha HRY hqo HGR
  obtain ⟨L, hL⟩ : ∃ L, L = (r.eraseIdx y).length := ⟨_, rfl⟩
  have HLL := hide hL
  rw [← hL] at HVO HO4 ⊢
  clear hL
  rw [← hqc]
  clear hqc
  have hyI : (y : Int) < R := by omega
  obtain ⟨fs, hfs⟩ : ∃ fs : List FactP, fs = [isV (.slice (some ⟨gr, or', none⟩) R cr), isV (.int .i64 y), isV (.pointer (some ⟨gr, or' + y, none⟩)), isV (.int .i64 a), isV (.slice xc C cc), isV (.int .i64 C), rowsT W4.heap.size (rowsLn C a), isV (.func (.func 139) #[] #[.pointer (some ⟨qo, 0, none⟩), .pointer (some ⟨qc, 0, none⟩)]), rowsT W4.heap.size (rowsAtL r c y)] := ⟨_, rfl⟩
  have hst : ∀ f ∈ fs, StableP f := by
    rw [hfs]; intro f hf
    simp only [List.mem_cons, List.not_mem_nil, or_false] at hf
    rcases hf with rfl | rfl | rfl | rfl | rfl | rfl | rfl | rfl | rfl <;> first | exact stable_v _ | exact stable_rowsT _ _
  subst hfs
  have hS1 : ∀ (w2 w3 : World), Below W4.heap.size W4.drew w2 → Below w2.heap.size w2 w3 → Below W4.heap.size W4.drew w3 := fun w2 w3 h k => h.trans (k.mono h.size)
  have hS0 : ∀ w2 : World, Below W4.heap.size W4.drew w2 → Below W4.heap.size W4 w2 := fun w2 h => (below_drew (Below.refl _ W4)).trans h
  refine wp_region_need (S := fun w2 => Below W4.heap.size W4.drew w2) [isV (.slice (some ⟨gr, or', none⟩) R cr), isV (.int .i64 y), isV (.pointer (some ⟨gr, or' + y, none⟩)), isV (.int .i64 a), isV (.slice xc C cc), isV (.int .i64 C), rowsT W4.heap.size (rowsLn C a), isV (.func (.func 139) #[] #[.pointer (some ⟨qo, 0, none⟩), .pointer (some ⟨qc, 0, none⟩)]), rowsT W4.heap.size (rowsAtL r c y)] [(0, .slice (some ⟨gr, or', none⟩) R cr), (2, .int .i64 y), (4, .pointer (some ⟨qc, 0, none⟩)), (7, .pointer (some ⟨qo, 0, none⟩))] _ _ 9 (by kernel_rfl) rfl rfl (by kernel_rfl) (by kernel_rfl) rfl (by kernel_rfl) ?base (Below.refl _ _) ?ob rfl ?fin
  case base =>
    intro t v ht
    simp only [List.lookup_cons, List.lookup_nil] at ht
    repeat' split at ht
    all_goals first | (cases ht; done) | (obtain rfl := Option.some.inj ht; rename_i hh; obtain rfl := eq_of_beq hh; rfl)
  case ob =>
    exact ⟨obn_of (by kernel_rfl) (obt_move (.slice (some ⟨gr, or', none⟩) R cr) rfl rfl rfl (srt_b 0 rfl)),
      obn_of (by kernel_rfl) (obt_move (.int .i64 y) rfl rfl rfl (srt_b 2 rfl)),
      obn_of (by kernel_rfl) (obt_two (.pointer (some ⟨gr, or' + y, none⟩)) rfl rfl (srt_j 0 rfl (by kernel_rfl) rfl) (srt_j 1 rfl (by kernel_rfl) rfl) (fun ρ w2 hS hx hy' => by have h1 := hyI; go_simp)),
      obn_of (by kernel_rfl) (obt_one (.int .i64 a) rfl rfl (srt_j 2 rfl (by kernel_rfl) rfl) (fun ρ w2 hS hx => by have hv := below_cell (hS0 _ hS) HGR4.out HRV.out; go_simp)),
      obn_of (by kernel_rfl) (obt_one (.slice xc C cc) rfl rfl (srt_b 4 rfl) (fun ρ w2 hS hx => by have hv := below_cell (hS0 _ hS) HQ2.out HVC.out; go_simp)),
      obn_of (by kernel_rfl) (obt_one (.int .i64 C) rfl rfl (srt_j 4 rfl (by kernel_rfl) rfl) (fun ρ w2 hS hx => by go_simp)),
      obn_of (by kernel_rfl) (obt_call hst [.int .i64 a, .int .i64 C] rfl Try.func138 (by kernel_rfl) (by kernel_rfl) rfl ⟨srt_j 3 rfl (by kernel_rfl) rfl, srt_j 5 rfl (by kernel_rfl) rfl, trivial⟩ (fun w2 hS => by
        refine (rowsWith_any a C w2 HC5.out).mono ?_
        rintro e w3 ⟨u, rfl, ho, hb3⟩
        rw [bitRows_rowsL C HC5.out] at ho
        exact ⟨u, rfl, hS1 _ _ hS hb3, hb3, matT_base (matT_own ho) hS.size⟩)),
      obn_of (by kernel_rfl) (obt_two (.func (.func 139) #[] #[.pointer (some ⟨qo, 0, none⟩), .pointer (some ⟨qc, 0, none⟩)]) rfl rfl (srt_b 7 rfl) (srt_b 4 rfl) (fun ρ w2 hS hx hy' => by go_simp)),
      fun ac w2 hS hB hD K hK => ⟨.inl rfl, run_call rfl Try.func137 (by kernel_rfl) (by kernel_rfl) #[ac.tmps.getD 20 undef, .func (.func 139) #[] #[.pointer (some ⟨qo, 0, none⟩), .pointer (some ⟨qc, 0, none⟩)]] (by
          have h21 : ac.tmps.getD 21 undef = .func (.func 139) #[] #[.pointer (some ⟨qo, 0, none⟩), .pointer (some ⟨qc, 0, none⟩)] := hD 7 21 rfl (by kernel_rfl)
          simp only [List.map_toArray, List.map_cons, List.map_nil]
          rw [show ac.eval (.tmp 21) = ac.tmps.getD 21 undef from rfl, h21]; rfl) (by
          have h20 : rowsT W4.heap.size (rowsLn C a) (ac.tmps.getD 20 undef) w2 := hD 6 20 rfl (by kernel_rfl)
          refine (delRows_any _ (rowsLn C a) 139 #[.pointer (some ⟨qo, 0, none⟩), .pointer (some ⟨qc, 0, none⟩)] (RowOf C a) (fun x => !restB (r.eraseIdx y) (subL c x)) W4.heap.size W4 w2 (enters_of Try.func139 (by kernel_rfl) rfl) h20 hS.size (Nat.le_refl _) (hS0 _ hS) (fun x hx => (mem_rowsL _ _ _).1 hx) (fun x u w5 hx hw hu => ?_)).mono ?_
          · exact rowsPred_any _ _ u (r.eraseIdx y) c x qo qc w5 (Nat.lt_of_lt_of_le HQ1.out hw.size) (Nat.lt_of_lt_of_le HQ2.out hw.size) (below_cell hw HQ1.out HVO.out) (below_cell hw HQ2.out HVC.out) (inRow_below HO4.out hw) (inRow_below HC4.out hw) hu (by rw [hx.1, HCC.out]) HM.out (mid_rowOf hx HC5.out.2)
          · rintro e w3 ⟨u, rfl, ho, hb3⟩
            rw [HFIL.out] at ho
            exact ⟨u, rfl, hK _ _ (hS.trans hb3) (fun j hj => absurd (needL_of hj) (by rw [show needL _ 8 = [] by kernel_rfl]; simp)) ho⟩)⟩,
      trivial⟩
  case fin =>
    intro a' w' h1 h2 h3 hS h4 K hK
    have hmat : rowsT W4.heap.size (rowsAtL r c y) (a'.tmps.getD 22 undef) w' := h4 8 22 rfl (by decide) (by kernel_rfl)
    obtain ⟨v22, hv22⟩ : ∃ v22, a'.tmps.getD 22 undef = v22 := ⟨_, rfl⟩
    rw [hv22] at hmat
    refine tail_assign rfl (show a'.eval (.tmp 22) = v22 from hv22) ?_ K hK
    have HMT := hide (matT_base hmat HBA.out.size)
    have HBE := hide (HBA.out.trans ((hS0 _ hS).mono HBA.out.size))
    clear hst h3 h4 hK hS1 hv22 hmat
    go_wp2
    exact bodyPost_ret (results_tmp rfl _ _ _) rfl ⟨v22, congrArg Ending.returned (set_get (d := 6) (n := 23) h1 (by decide)), HMT.out, HBE.out⟩
end Go.Proofs.Ytcliiefedmiokaa
/-
  leastRow, LeastImage of the program.
-/
namespace Go.Proofs.Ytcliiefedmiokaa
open Go.RowKit Go.Shelf Mx

theorem mid_img {r c : List Int} (hr : r.length ≤ 5) (hc : c.length ≤ 5) (h : HasImg r c) : Mid1000 c := by
  obtain ⟨m, hm⟩ := h
  refine ⟨hc, fun x hx => ?_⟩
  have h1 := hm.col x hx
  have h2 := cell_le (f := fun y => m y x) (n := r.length) fun y hy => hm.cell y x hy hx
  omega
theorem firstRows_head {a : Int} {r c : List Int} (hne : firstRows a r c ≠ []) : ∃ l, firstRows a r c = leastCh (a :: r) c :: l := by
  show ∃ q, firstRows a r c = (firstRows a r c).headD [] :: q
  cases e : firstRows a r c with
  | nil => exact absurd e hne
  | cons x q => exact ⟨q, rfl⟩
/-- What holds while the least image is constructed. -/
def InvL (r c : List Int) : Prop := r.length ≤ 5 ∧ (1 ≤ c.length ∧ c.length ≤ 5) ∧ HasImg r c
theorem invL_start {r c : List Int} (h : existsOf r c = true) : InvL r c := by
  obtain ⟨hr, hc, -, -, -⟩ := sumsOk_yes (existsOf_sums h)
  exact ⟨hr.2, hc, img_of_exists h⟩
/-- What CanPlace answers. -/
def placeOf (r c : List Int) (y x v : Int) : Bool := existsOf r c && decide (0 ≤ y ∧ y < r.length ∧ 0 ≤ x ∧ x < c.length) && (rowsAtL r c y.toNat).any fun row => row.getD x.toNat 0 == v
end Go.Proofs.Ytcliiefedmiokaa
