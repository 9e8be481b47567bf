/-
  Texts of this claim, one behind the other: RowFn, GridOf, GridY, AddI, AghI.
-/
import Derived.Test.YtiajdmoppgpgnaaPackF
import Derived.Test.YtiajdmoppgpgnaaPackE
import Derived.Laws.IdiomCopy
import Derived.Lib.SliceRun
import Derived.Shelf.Abstract
import Derived.Deep.LoopGhost
import Derived.Laws.CopyOwn
/-
  slices.IndexFunc, ContainsFunc, DeleteFunc over rows.
-/
namespace Go.Proofs.Ytiajdmoppgpgnaa
open Go.RowKit Go.Shelf

/-- What the function value answers of a row that meets ok, in whatever world has grown out of W. -/
def RowPred (g : Nat) (cb : Array Value) (ok : List Int → Prop) (p : List Int → Bool) (W : World) : Prop :=
  ∀ (r : List Int) (u : Value) (w : World), ok r → Below W.heap.size W w → InRow w u r → Calls Try.prog g (#[u] ++ cb) w fun e w' => e = .returned (.bool (p r)) ∧ Below w.heap.size w w'
theorem rowPred_mono {g : Nat} {cb : Array Value} {ok : List Int → Prop} {p : List Int → Bool} {W W' : World} (h : RowPred g cb ok p W) (hb : Below W.heap.size W W') : RowPred g cb ok p W' :=
  fun r u w ho hw hr => h r u w ho (hb.trans (hw.mono hb.size)) hr
/-- The place of the first row at which p holds, or -1. -/
def idxP (p : List Int → Bool) (m : List (List Int)) : Int := if m.findIdx p < m.length then (m.findIdx p : Nat) else -1
theorem idxP_hit {p : List Int → Bool} {m : List (List Int)} {k : Nat} (hk : k < m.length) (h : p m[k] = true) (ha : ∀ t, (ht : t < m.length) → t < k → p m[t] = false) : idxP p m = k := by
  have : m.findIdx p = k := (List.findIdx_eq hk).2 ⟨h, fun j hj => ha j (by omega) hj⟩
  rw [idxP, this, if_pos hk]
theorem idxP_miss {p : List Int → Bool} {m : List (List Int)} (ha : ∀ t, (ht : t < m.length) → p m[t] = false) : idxP p m = -1 := by
  rw [idxP, if_neg]
  intro h
  have := List.findIdx_getElem (w := h)
  rw [ha _ h] at this; cases this
theorem idxP_any (p : List Int → Bool) (m : List (List Int)) : decide (0 ≤ idxP p m) = m.any p := by
  cases h : m.any p with
  | true =>
    rw [List.any_eq_true] at h
    obtain ⟨x, hx, hp⟩ := h
    have := List.findIdx_lt_length_of_exists ⟨x, hx, hp⟩
    rw [idxP, if_pos this]; simp
  | false =>
    rw [List.any_eq_false] at h
    rw [idxP_miss fun t ht => by simpa using h _ (List.getElem_mem ht)]; rfl
set_option maxHeartbeats 1000000 in
theorem idxRows_any (v : Value) (m : List (List Int)) (g : Nat) (cb : Array Value) (ok : List Int → Prop) (p : List Int → Bool) (w : World) (eg : ∀ args w, (callFunc g args).run Try.prog w = .ok (.enter g args) w) (hin : InMat w v m) (hok : ∀ r ∈ m, ok r) (hp : RowPred g cb ok p w) :
    Calls Try.prog 113 #[v, .func (.func g) #[] cb] w fun e w' => e = .returned (.int .i64 (idxP p m)) ∧ Below w.heap.size w w' := by
  obtain ⟨a, c, rfl, hm, hpl⟩ := hin
  unfold maxLen at hm
  have HP := hide hp; have HOK := hide hok
  clear hp hok
  by_cases h0 : m.length = 0
  · have hr : m = [] := List.eq_nil_of_length_eq_zero h0
    subst hr
    clear hpl h0 hm
    go_enter Try.func113, Try.ntmps113
    go_wp2
    go_loop [8] (fun i => i = .int .i64 0) (fun _ => 0)
    case atStart => rfl
    case round =>
      obtain rfl := hrel
      go_wp2
      go_ret
      exact ⟨rfl, Below.refl _ _⟩
  · obtain ⟨b, o, rfl, hg, hc⟩ := hpl.resolve_left h0
    have HC := hide hc; have HG := hide hg
    obtain ⟨n, hn⟩ : ∃ n, n = m.length := ⟨_, rfl⟩
    have HN := hide hn
    rw [← hn] at hm ⊢
    clear hpl hc h0 hn hg
    go_enter Try.func113, Try.ntmps113
    go_wp2
    go_loopw [8] (fun i w' => ∃ k : Nat, k ≤ n ∧ i = .int .i64 k ∧ (∀ t, (h : t < m.length) → t < k → p m[t] = false) ∧ Below w.heap.size w w') (fun i _ => n - (intOf i).toNat)
    case atStart => exact ⟨0, Nat.zero_le _, rfl, fun t _ h => absurd h (Nat.not_lt_zero _), Below.refl _ _⟩
    case round =>
      obtain ⟨k, hk, rfl, hall, hb⟩ := hrel
      have HA := hide hall; have HB := hide hb
      clear hall hb
      by_cases hlt : k < n
      · have hk' : k < m.length := by rw [← HN.out]; exact hlt
        obtain ⟨u, hu, hru⟩ := HC.out k hk'
        have hx := below_cell HB.out HG.out hu
        have HCALL := hide (HP.out m[k] u wr (HOK.out _ (List.getElem_mem hk')) HB.out (inRow_below hru HB.out))
        have HHIT := hide (fun h => idxP_hit (p := p) hk' h HA.out)
        have HST : Hid (p m[k] = false → ∀ t, (h : t < m.length) → t < k + 1 → p m[t] = false) := hide fun h t h1 ht => by
          by_cases e : t = k
          · subst e; exact h
          · exact HA.out t h1 (by omega)
        clear hu hru
        obtain ⟨q, hq⟩ : ∃ q, q = p m[k] := ⟨_, rfl⟩
        rw [← hq] at HCALL HHIT HST
        clear hq
        cases q with
        | true =>
          have HF := hide (HHIT.out rfl); clear HHIT HST
          go_wp2_with (go_at_fn g; refine HCALL.out.mono ?_; rintro e w9 ⟨rfl, hb9⟩; have HB9 := hide (HB.out.trans (hb9.mono HB.out.size)); clear hb9)
          go_ret
          exact ⟨by rw [HF.out]; rfl, HB9.out⟩
        | false =>
          have HS2 := hide (HST.out rfl); clear HST HHIT
          go_wp2_with (go_at_fn g; refine HCALL.out.mono ?_; rintro e w9 ⟨rfl, hb9⟩; have HB9 := hide (HB.out.trans (hb9.mono HB.out.size)); clear hb9)
          go_roundw
          case rel => exact ⟨k + 1, by omega, by go_num, HS2.out, HB9.out⟩
          case measure => simp [intOf]; omega
      · have HY := hide (idxP_miss (p := p) fun t h => HA.out t h (by have := HN.out; omega))
        go_wp2
        go_ret
        exact ⟨by rw [HY.out]; rfl, HB.out⟩
set_option maxHeartbeats 400000 in
theorem containsRows_any (v : Value) (m : List (List Int)) (g : Nat) (cb : Array Value) (ok : List Int → Prop) (p : List Int → Bool) (w : World) (eg : ∀ args w, (callFunc g args).run Try.prog w = .ok (.enter g args) w) (hin : InMat w v m) (hok : ∀ r ∈ m, ok r) (hp : RowPred g cb ok p w) :
    Calls Try.prog 69 #[v, .func (.func g) #[] cb] w fun e w' => e = .returned (.bool (m.any p)) ∧ Below w.heap.size w w' := by
  have HI := hide (idxRows_any v m g cb ok p w eg hin hok hp)
  have HY := hide (idxP_any p m)
  have hlo : -1 ≤ idxP p m ∧ idxP p m ≤ maxLen := by
    obtain ⟨a, c, -, hm, -⟩ := hin
    unfold idxP
    by_cases h : m.findIdx p < m.length
    · rw [if_pos h]; omega
    · rw [if_neg h]; exact ⟨by omega, by unfold maxLen; omega⟩
  unfold maxLen at hlo
  obtain ⟨q, hq⟩ : ∃ q, q = idxP p m := ⟨_, rfl⟩
  rw [← hq] at HI HY hlo
  rw [← HY.out]
  obtain ⟨hlo, hhi⟩ := hlo
  clear hin hok hp hq eg HY
  go_enter Try.func69, Try.ntmps69
  go_wp2_with (go_at_call 113; refine HI.out.mono ?_; rintro e w9 ⟨rfl, hb9⟩; have HB9 := hide hb9; clear hb9)
  go_ret
  exact ⟨rfl, HB9.out⟩
end Go.Proofs.Ytiajdmoppgpgnaa
/-
  copy into a row of the call's own; gridOf.
-/
namespace Go.Proofs.Ytiajdmoppgpgnaa
open Go.RowKit
set_option maxRecDepth 100000

/-- copy of a row over a row of the same length that the call owns. -/
theorem wpList_copyRow {ops : Array Oper} {rest : List Oper} {o : Oper} {a : Act} {Q : Exit → Act → World → Prop} {W : World} {base g n cap : Nat} {xs : List Value} {r : List Int} {sv : Value}
    (h : W.ownsRow base 3 1 (.slice (some ⟨g, 0, none⟩) n cap) n xs) (hr : InRow W sv r) (hn : r.length = n)
    (hgd : o.guard = none) (d s : Operand) (ho : o.op = .call { callee := .builtin .copy, args := #[d, s], argTypes := #[33, 33] }) (hd : a.eval d = .slice (some ⟨g, 0, none⟩) n cap) (hs : a.eval s = sv)
    (hK : ∀ w', w'.ownsRow base 3 1 (.slice (some ⟨g, 0, none⟩) n cap) n (ints r) → W.grownBy w' (some g) → wpList Try.prog ops Q rest (a.put o.dst (goInt n)) w') : wpList Try.prog ops Q (o :: rest) a W := by
  obtain ⟨sa, sc, rfl, -, hp⟩ := hr
  rcases h.2 with ⟨e, _⟩ | ⟨g', cap', cur, e, hbg, hg, hnc, hcm, hcs, htk⟩
  · cases e
  cases e
  by_cases h0 : n = 0
  · have hr0 : r = [] := List.eq_nil_of_length_eq_zero (by omega)
    subst hr0
    subst h0
    refine wpList_copy_nothing hgd d s _ _ ho 3 Try.underlying33 (by kernel_rfl) (some ⟨g, 0, none⟩) sa 0 cap 0 sc hd hs (by decide) ?_
    refine hK W ⟨by simp [ints], .inr ⟨g, cap, cur, rfl, hbg, hg, hnc, hcm, hcs, by simp [ints]⟩⟩ ⟨rfl, rfl, rfl, Nat.le_refl _, fun _ _ _ => rfl⟩
  · obtain ⟨gs, os, rfl, hgs, hcell⟩ := hp.resolve_left (by omega)
    refine wpList_copy_own hgd d s _ _ ho 3 Try.underlying33 (by kernel_rfl) g 0 n cap ⟨gs, os, none⟩ r.length sc hd hs cur _ hg (ints r) (by rw [ints_len, hn]; simp) (fun j v hj => ?_) (by rw [ints_len]; omega) (fun v hv => ?_) ?_
    · have hj' : j < r.length := by rw [← ints_len r]; exact (List.getElem?_eq_some_iff.1 hj).1
      rw [ints_at r j hj'] at hj
      cases hj
      rw [addr_add]; exact hcell j hj'
    · simp only [ints, List.mem_map] at hv
      obtain ⟨z, -, rfl⟩ := hv
      rfl
    · rw [ints_len, hn]
      refine hK _ ⟨by rw [ints_len, hn]; omega, .inr ⟨g, cap, _, rfl, hbg, setRow_heap W g _ _ _ _ hg, hnc, hcm, ?_, ?_⟩⟩ ⟨rfl, rfl, rfl, by simp [World.setRow], fun k hk hr => setRow_other W g k _ (fun e => hr (by rw [e]))⟩
      · have := ints_len r
        simp; omega
      · have := ints_len r
        simp only [List.take_zero, List.nil_append, Nat.mul_one]
        rw [List.take_append_of_le_length (by omega), List.take_of_length_le (by omega)]

/-- A grid of the size of an image. -/
def gridB (m : List (List Int)) : Bool := decide (m.length ≠ 0) && sizeOk m.length (widthM m) && !m.any fun r => r.length != widthM m
theorem widthM_at {m : List (List Int)} (h : 0 < m.length) : widthM m = m[0].length := by
  cases m with
  | nil => cases h
  | cons x r => rfl
/-- Any grid as numbers by places. -/
def elM (m : List (List Int)) (y x : Nat) : Int := (m.getD y []).getD x 0
theorem gridB_mk {m : List (List Int)} (h : gridB m = true) : m = mkM m.length (widthM m) (elM m) ∧ (1 ≤ m.length ∧ m.length ≤ 5) ∧ (1 ≤ widthM m ∧ widthM m ≤ 5) := by
  unfold gridB at h
  simp only [Bool.and_eq_true, Bool.not_eq_true', decide_eq_true_eq] at h
  obtain ⟨⟨h0, h1⟩, h2⟩ := h
  have hs := sizeOk_yes h1
  refine ⟨?_, by omega, by omega⟩
  have hrow : ∀ i, (hi : i < m.length) → m[i].length = widthM m := fun i hi => by
    rw [List.any_eq_false] at h2
    have := h2 m[i] (List.getElem_mem hi)
    simpa using this
  apply List.ext_getElem
  · rw [mkM_len]
  · intro i h1 h2
    rw [mkM_at]
    apply List.ext_getElem
    · rw [rowF_len, hrow i h1]
    · intro j h3 h4
      rw [rowF_at, elM]
      simp [h1, h3]
set_option maxHeartbeats 400000 in
theorem widthNe_any (C : Nat) (g : Nat) (R : Int) (W : World) (hs : SizeAt W g R C) : RowPred 107 #[.pointer (some ⟨g, 0, none⟩)] (fun _ => True) (fun r => r.length != C) W := by
  intro r u w _ hb hr
  obtain ⟨a, c, rfl, -⟩ := hr
  obtain ⟨-, h1⟩ := sizeAt_cells (sizeAt_below hs hb)
  show Calls Try.prog _ #[.slice a r.length c, .pointer (some ⟨g, 0, none⟩)] w fun e w' => e = .returned (.bool (r.length != C)) ∧ Below w.heap.size w w'
  obtain ⟨n, hn⟩ : ∃ n, n = r.length := ⟨_, rfl⟩
  have HE : Hid ((n != C) = ((n : Int) != (C : Int))) := hide (by rw [Bool.eq_iff_iff]; simp; omega)
  rw [← hn, HE.out]
  clear hs hn HE
  go_enter Try.func107, Try.ntmps107
  go_wp2
  go_ret
  exact ⟨rfl, Below.refl _ _⟩

theorem gridRes_no {w w' : World} (h : GridAt w' w.heap.size 0 0 (.slice none 0 0)) : w'.cell? ⟨w.heap.size, 0, none⟩ = some (.int .i64 0) ∧ w'.cell? ⟨w.heap.size, 1, none⟩ = some (.int .i64 0) ∧ w'.cell? ⟨w.heap.size, 2, none⟩ = some (.slice none 0 0) := gridAt_cells h
def GridOfNo (w : World) (e : Ending) (w' : World) : Prop := e = .returned (.tuple #[gridV 0 0 (.slice none 0 0), .bool false]) ∧ Below w.heap.size w w'
set_option maxHeartbeats 2000000 in
theorem gridOf_no (v : Value) (m : List (List Int)) (w : World) (hin : InMat w v m) (h : gridB m = false) :
    Calls Try.prog 66 #[v] w (GridOfNo w) := by
  have HIN := hide hin
  obtain ⟨a, c, rfl, hm, hp⟩ := hin
  unfold maxLen at hm
  have HG0 : Hid (GridAt (w.alloc (.cells #[.int .i64 0, .int .i64 0, .slice none 0 0] 75)) w.heap.size 0 0 (.slice none 0 0)) := hide (heap_alloc_new w _)
  have HB0 := hide ((Below.refl w.heap.size w).alloc (Nat.le_refl _) (.cells #[.int .i64 0, .int .i64 0, .slice none 0 0] 75))
  by_cases h0 : m.length = 0
  · rw [h0] at hm ⊢
    clear hp h HIN
    go_enter Try.func66, Try.ntmps66
    go_wp2_with ((with_reducible refine wpList_storeGr HG0.out 0 0 (.slice none 0 0) rfl rfl _ _ rfl rfl rfl ?_); intro w3 hs hg3 hz; have HS3 := hide hs; have HB3 := hide (HB0.out.trans (grown_below hg3 (fun q hq => by cases hq; omega) HB0.out.size)); clear hs hg3 hz)
    obtain ⟨q0, q1, q2⟩ := gridAt_cells HS3.out
    refine bodyPost_ret (v := .tuple #[gridV 0 0 (.slice none 0 0), .bool false]) ?_ rfl ⟨rfl, HB3.out⟩
    simp [results, Try.results66, go_sem, q0, q1, q2, gridV]
  · obtain ⟨g, o, rfl, hg, hcell⟩ := hp.resolve_left h0
    obtain ⟨u, hx, hr⟩ := hcell 0 (by omega)
    obtain ⟨a1, c1, rfl, hm1, -⟩ := hr
    unfold maxLen at hm1
    rw [Nat.add_zero] at hx
    replace hx := below_cell HB0.out hg hx
    have hw0 := widthM_at (m := m) (by omega)
    rw [← hw0] at hx hm1
    have h0I : ((m.length : Int) == 0) = false := by simp [h0]
    have hpos : (0 : Int) < m.length := by omega
    obtain ⟨R, hR⟩ : ∃ R, R = m.length := ⟨_, rfl⟩
    obtain ⟨C, hC⟩ : ∃ C, C = widthM m := ⟨_, rfl⟩
    have HSZ1 : Hid (∀ w : World, SizeAt (w.alloc (.cells #[.int .i64 R, .int .i64 C] 73)) w.heap.size R C) := hide fun w => heap_alloc_new w _
    have HSZ2 : Hid (∀ w : World, Below w.heap.size w (w.alloc (.cells #[.int .i64 R, .int .i64 C] 73))) := hide fun w => (Below.refl _ _).alloc (Nat.le_refl _) _
    have HZ := hide (HSZ1.out (w.alloc (.cells #[.int .i64 0, .int .i64 0, .slice none 0 0] 75)))
    have HZB := hide (HSZ2.out (w.alloc (.cells #[.int .i64 0, .int .i64 0, .slice none 0 0] 75)))
    have HG1 := hide (gridAt_below HG0.out HZB.out)
    have HB1 := hide (HB0.out.trans (HZB.out.mono HB0.out.size))
    have HRC : Hid (gridB m = (sizeOk R C && !m.any fun r => r.length != C)) := hide (by rw [gridB, decide_eq_true h0, Bool.true_and, hR, hC])
    rw [← hR] at HIN hm h0I hpos ⊢
    rw [← hC] at hx hm1
    clear hp hcell hw0 hR hC h0
    cases hs : sizeOk R C with
    | false =>
      have HS := hide hs
      clear hs
      go_enter Try.func66, Try.ntmps66
      go_wp2_with (first | (with_reducible refine wpList_loadSz HZ.out rfl _ rfl rfl ?_) | ((with_reducible refine (sizeok_any R C _).mono ?_); rw [HS.out]; rintro e w1 ⟨rfl, hb⟩; have HG2 := hide (gridAt_below HG1.out hb); have HB2 := hide (HB1.out.trans (hb.mono HB1.out.size)); clear hb) | ((with_reducible refine wpList_storeGr HG2.out 0 0 (.slice none 0 0) rfl rfl _ _ rfl rfl rfl ?_); intro w3 hs hg3 hz; have HS3 := hide hs; have HB3 := hide (HB2.out.trans (grown_below hg3 (fun q hq => by cases hq; omega) HB2.out.size)); clear hs hg3 hz))
      obtain ⟨q0, q1, q2⟩ := gridAt_cells HS3.out
      refine bodyPost_ret (v := .tuple #[gridV 0 0 (.slice none 0 0), .bool false]) ?_ rfl ⟨rfl, HB3.out⟩
      simp [results, Try.results66, go_sem, q0, q1, q2, gridV]
    | true =>
      have HS := hide hs
      have HANY : Hid ((m.any fun r => r.length != C) = true) := hide (by
        have e := HRC.out
        rw [h, hs, Bool.true_and] at e
        cases hh : (m.any fun r => r.length != C) with
        | true => rfl
        | false => rw [hh] at e; cases e)
      clear hs h
      go_enter Try.func66, Try.ntmps66
      go_wp2_with (first | (with_reducible refine wpList_loadSz HZ.out rfl _ rfl rfl ?_) | ((with_reducible refine (sizeok_any R C _).mono ?_); rw [HS.out]; rintro e w1 ⟨rfl, hb⟩; have HZ2 := hide (sizeAt_below HZ.out hb); have HG2 := hide (gridAt_below HG1.out hb); have HB2 := hide (HB1.out.trans (hb.mono HB1.out.size)); clear hb) | ((with_reducible refine (containsRows_any _ m 107 #[.pointer (some ⟨w.heap.size + 1, 0, none⟩)] (fun _ => True) (fun r => r.length != C) _ (fun _ _ => rfl) (inMat_below HIN.out HB2.out) (fun _ _ => trivial) (widthNe_any C _ R _ (by have := HZ2.out; simpa using this))).mono ?_); rw [HANY.out]; rintro e w2 ⟨rfl, hb⟩; have HG3 := hide (gridAt_below HG2.out hb); have HB3 := hide (HB2.out.trans (hb.mono HB2.out.size)); clear hb) | ((with_reducible refine wpList_storeGr HG3.out 0 0 (.slice none 0 0) rfl rfl _ _ rfl rfl rfl ?_); intro w3 hs hg3 hz; have HS3 := hide hs; have HB4 := hide (HB3.out.trans (grown_below hg3 (fun q hq => by cases hq; omega) HB3.out.size)); clear hs hg3 hz))
      obtain ⟨q0, q1, q2⟩ := gridAt_cells HS3.out
      refine bodyPost_ret (v := .tuple #[gridV 0 0 (.slice none 0 0), .bool false]) ?_ rfl ⟨rfl, HB4.out⟩
      simp [results, Try.results66, go_sem, q0, q1, q2, gridV]
end Go.Proofs.Ytiajdmoppgpgnaa
/-
  gridOf at a grid of the size of an image: a copy of it.
-/
namespace Go.Proofs.Ytiajdmoppgpgnaa
open Go.RowKit
set_option maxRecDepth 100000

theorem anyRow_no {m : List (List Int)} {p : List Int → Bool} (h : ∀ r ∈ m, p r = false) : m.any p = false := by
  rw [List.any_eq_false]
  intro r hr
  simp [h r hr]
theorem mkM_row (R C : Nat) (f : Nat → Nat → Int) (y : Nat) (hy : y < R) : (mkM R C f)[y]? = some (rowF C (f y)) := by
  simp [mkM, hy]
/-- The first k rows copied. -/
def cpF (f : Nat → Nat → Int) (k y x : Nat) : Int := if y < k then f y x else 0
theorem cpF_set (R C : Nat) (f : Nat → Nat → Int) (k : Nat) : (mkM R C (cpF f k)).set k (rowF C (f k)) = mkM R C (cpF f (k + 1)) := by
  apply List.ext_getElem
  · simp [mkM_len]
  · intro i h1 h2
    rw [List.getElem_set, mkM_at]
    have hi : i < (mkM R C (cpF f k)).length := by simpa using h1
    by_cases e : k = i
    · subst e
      rw [if_pos rfl]
      rw [mkM_at]
      exact rowF_congr fun x _ => by simp [cpF]
    · rw [if_neg e, mkM_at]
      refine rowF_congr fun x _ => ?_
      unfold cpF
      by_cases h : i < k
      · rw [if_pos h, if_pos (by omega)]
      · rw [if_neg h, if_neg (by omega)]
def GridOfYes (R C : Nat) (f : Nat → Nat → Int) (w : World) (e : Ending) (w' : World) : Prop := ∃ u, e = .returned (.tuple #[gridV R C u, .bool true]) ∧ OwnMat w' w.heap.size w'.heap.size u (mkM R C f) ∧ Below w.heap.size w w'
set_option maxHeartbeats 4000000 in
theorem gridOf_yes (v : Value) (R C : Nat) (f : Nat → Nat → Int) (w : World) (hin : InMat w v (mkM R C f)) (hR : 1 ≤ R ∧ R ≤ 5) (hC : 1 ≤ C ∧ C ≤ 5) :
    Calls Try.prog 66 #[v] w (GridOfYes R C f w) := by
  have HIN := hide hin
  have HS : Hid (sizeOk R C = true) := hide (by rw [sizeOk, decide_eq_true (show (1 : Int) ≤ R ∧ (R : Int) ≤ 5 by omega), decide_eq_true (show (1 : Int) ≤ C ∧ (C : Int) ≤ 5 by omega)]; rfl)
  have HANY : Hid (((mkM R C f).any fun r => r.length != C) = false) := hide (anyRow_no fun r hr => by
    simp only [mkM, List.mem_map] at hr
    obtain ⟨y, -, rfl⟩ := hr
    rw [rowF_len]; simp)
  obtain ⟨g, o, cap, rfl, hg, hrow⟩ := inMat_img hin (by omega) (by omega)
  have HROW := hide hrow
  obtain ⟨g', o', c', hx, -, -⟩ := hrow 0 (by omega)
  rw [Nat.add_zero] at hx
  have HG0 : Hid (GridAt (w.alloc (.cells #[.int .i64 0, .int .i64 0, .slice none 0 0] 75)) w.heap.size 0 0 (.slice none 0 0)) := hide (heap_alloc_new w _)
  have HB0 := hide ((Below.refl w.heap.size w).alloc (Nat.le_refl _) (.cells #[.int .i64 0, .int .i64 0, .slice none 0 0] 75))
  replace hx := below_cell HB0.out hg hx
  have h0I : ((R : Int) == 0) = false := by simp; omega
  have hpos : (0 : Int) < R := by omega
  have HSZ1 : Hid (∀ w : World, SizeAt (w.alloc (.cells #[.int .i64 R, .int .i64 C] 73)) w.heap.size R C) := hide fun w => heap_alloc_new w _
  have HSZ2 : Hid (∀ w : World, Below w.heap.size w (w.alloc (.cells #[.int .i64 R, .int .i64 C] 73))) := hide fun w => (Below.refl _ _).alloc (Nat.le_refl _) _
  have HZ := hide (HSZ1.out (w.alloc (.cells #[.int .i64 0, .int .i64 0, .slice none 0 0] 75)))
  have HZB := hide (HSZ2.out (w.alloc (.cells #[.int .i64 0, .int .i64 0, .slice none 0 0] 75)))
  have HG1 := hide (gridAt_below HG0.out HZB.out)
  have HB1 := hide (HB0.out.trans (HZB.out.mono HB0.out.size))
  have HGN : Hid (∀ (w : World) (a : Option Addr) (n c : Nat), GridAt (w.alloc (.cells #[.int .i64 R, .int .i64 C, .slice a n c] 75)) w.heap.size R C (.slice a n c)) := hide fun w _ _ _ => heap_alloc_new w _
  have HGB : Hid (∀ (w : World) (a : Option Addr) (n c : Nat), Below w.heap.size w (w.alloc (.cells #[.int .i64 R, .int .i64 C, .slice a n c] 75))) := hide fun w _ _ _ => (Below.refl _ _).alloc (Nat.le_refl _) _
  obtain ⟨r1, r2⟩ := hR
  obtain ⟨c1, c2⟩ := hC
  clear hin hrow
  go_enter Try.func66, Try.ntmps66
  go_wp2_with (first | (with_reducible refine wpList_loadSz HZ.out rfl _ rfl rfl ?_) | ((with_reducible refine (sizeok_any R C _).mono ?_); rw [HS.out]; rintro e w1 ⟨rfl, hb⟩; have HZ2 := hide (sizeAt_below HZ.out hb); have HG2 := hide (gridAt_below HG1.out hb); have HB2 := hide (HB1.out.trans (hb.mono HB1.out.size)); clear hb) | ((with_reducible refine (containsRows_any _ (mkM R C f) 107 #[.pointer (some ⟨w.heap.size + 1, 0, none⟩)] (fun _ => True) (fun r => r.length != C) _ (fun _ _ => rfl) (inMat_below HIN.out HB2.out) (fun _ _ => trivial) (widthNe_any C _ R _ (by have := HZ2.out; simpa using this))).mono ?_); rw [HANY.out]; rintro e w2 ⟨rfl, hb⟩; have HZ3 := hide (sizeAt_below HZ2.out hb); have HG3 := hide (gridAt_below HG2.out hb); have HB3 := hide (HB2.out.trans (hb.mono HB2.out.size)); have hs3 := HB3.out.size; clear hb) | (with_reducible refine wpList_loadSz (by have := HZ3.out; simpa using this) rfl _ rfl rfl ?_) | ((with_reducible refine (zeroGrid_any R C _ (by omega) (by omega)).mono ?_); rintro e w4 ⟨x, rfl, ho, hb⟩; obtain ⟨xa, xn, xc, rfl⟩ := ownMat_slice ho; dsimp only [gridV]; have HO4 := hide ho; have HG4 := hide (gridAt_below HG3.out hb); have HB4 := hide (HB3.out.trans (hb.mono HB3.out.size)); have hs4 := hb.size; clear ho hb))
  obtain ⟨vs, hvs⟩ := HO4.out
  have hxn : xn = R := by
    have := hvs.1
    rcases this.2 with ⟨e, h0⟩ | ⟨g', cap', cur, e, _⟩
    · rw [mkM_len] at h0; omega
    · cases e; rw [mkM_len]
  obtain ⟨gx, rfl⟩ : ∃ gx, xa = some ⟨gx, 0, none⟩ := by
    rcases hvs.1.2 with ⟨e, h0⟩ | ⟨g', cap', cur, e, _⟩
    · rw [mkM_len] at h0; omega
    · cases e; exact ⟨_, rfl⟩
  subst hxn
  clear hvs vs
  have HN1 := hide (HGN.out w4 (some ⟨gx, 0, none⟩) xn xc)
  have HN2 := hide (HGB.out w4 (some ⟨gx, 0, none⟩) xn xc)
  have HO5 := hide (ownMat_below HO4.out HN2.out)
  have HG5 := hide (gridAt_below HG4.out HN2.out)
  have HB5 := hide (HB4.out.trans (HN2.out.mono HB4.out.size))
  have hwlt : w.heap.size < w2.heap.size := by have := gridAt_lt HG3.out; omega
  go_loopw [32] (fun i w' => ∃ k : Nat, k ≤ xn ∧ i = .int .i64 k ∧ OwnMat w' w2.heap.size w4.heap.size (.slice (some ⟨gx, 0, none⟩) xn xc) (mkM xn C (cpF f k)) ∧ GridAt w' w4.heap.size xn C (.slice (some ⟨gx, 0, none⟩) xn xc) ∧ GridAt w' w.heap.size 0 0 (.slice none 0 0) ∧ Below w.heap.size w w') (fun i _ => xn - (intOf i).toNat)
  case atStart =>
    refine ⟨0, Nat.zero_le _, rfl, ?_, HN1.out, HG5.out, HB5.out⟩
    have e : mkM xn C (cpF f 0) = mkM xn C fun _ _ => 0 := mkM_congr fun y x _ _ => by simp [cpF]
    rw [e]; exact HO5.out
  case round =>
    clear HO4 HO5 HN1 HG5 HB5
    obtain ⟨k, hk, rfl, ho, hgp, hg0, hb⟩ := hrel
    have HO := hide ho; have HGP := hide hgp; have HGZ := hide hg0; have HB := hide hb
    obtain ⟨p0, p1, p2⟩ := gridAt_cells hgp
    clear ho hgp hg0 hb
    by_cases hlt : k < xn
    · have hltI : (k : Int) < xn := by omega
      obtain ⟨gs, os, cs, hcr, hgs, hcell⟩ := HROW.out k hlt
      have hcr := below_cell HB.out hg hcr
      have HSRC : Hid (InRow wr (.slice (some ⟨gs, os, none⟩) C cs) (rowF C (f k))) := hide (by
        obtain ⟨a, c, he, -, hp⟩ := HIN.out
        simp only [Value.slice.injEq] at he
        obtain ⟨rfl, -, rfl⟩ := he
        obtain ⟨g1, o1, he, hg1, hc1⟩ := hp.resolve_left (by rw [mkM_len]; omega)
        cases he
        obtain ⟨u, hu, hr⟩ := hc1 k (by rw [mkM_len]; exact hlt)
        have h2 := below_cell HB.out hg hu
        rw [hcr] at h2
        cases h2
        rw [mkM_at] at hr
        exact inRow_below hr HB.out)
      have hkl : k < (mkM xn C (cpF f k)).length := by rw [mkM_len]; exact hlt
      obtain ⟨u, hcu, hfz, hur, huh, hset⟩ := ownMat_row HO.out k hkl
      rw [mkM_at, rowF_len] at hur hset
      obtain ⟨gd, cd, rfl, -⟩ := own_some hur (by omega)
      have HUR := hide hur; have HUH := hide huh; have HSET := hide hset
      have HST := hide (cpF_set xn C f k)
      clear hcell hur huh hset hkl
      go_wp2_with ((with_reducible refine wpList_copyRow (n := C) (r := rowF C (f k)) HUR.out HSRC.out (rowF_len _ _) rfl _ _ rfl rfl rfl ?_); intro w5 ho5 hg5; have HO5 := hide ho5; have HG5 := hide hg5; clear ho5 hg5)
      go_roundw
      case rel =>
        have hlo := (HUR.out.lt gd rfl)
        have hhi := HUH.out gd rfl
        have h1 := HSET.out _ (rowF C (f k)) HO5.out (rowF_len _ _) HG5.out
        rw [HST.out] at h1
        exact ⟨k + 1, by omega, by go_num, h1, gridAt_grown HGP.out HG5.out (by intro e; cases e; omega), gridAt_grown HGZ.out HG5.out (by intro e; cases e; omega), HB.out.trans (grown_below HG5.out (fun q hq => by cases hq; omega) HB.out.size)⟩
      case measure => simp [intOf]; omega
    · obtain rfl : k = xn := by omega
      have HE : Hid (mkM k C (cpF f k) = mkM k C f) := hide (mkM_congr fun y x hy _ => by simp [cpF, hy])
      have hw4 := gridAt_lt HGP.out
      go_wp2_with (first | (with_reducible refine wpList_loadGr HGP.out rfl _ rfl rfl ?_) | ((with_reducible refine wpList_storeGr HGZ.out k C (.slice (some ⟨gx, 0, none⟩) k xc) rfl rfl _ _ rfl rfl rfl ?_); intro w3 hs hg3 hz; have HS3 := hide hs; have HG3' := hide hg3; have hz3 := hz; have HB3' := hide (HB.out.trans (grown_below hg3 (fun q hq => by cases hq; omega) HB.out.size)); clear hs hg3 hz))
      obtain ⟨q0, q1, q2⟩ := gridAt_cells HS3.out
      have HOF := hide (ownMat_mono (lo' := w.heap.size) (hi' := w3.heap.size) (ownMat_within (lo' := w.heap.size) (hi' := w.heap.size + 1) HO.out (within_grown HG3'.out (fun q e => by cases e; omega)) (.inr (by omega))) (by omega) (by omega))
      refine bodyPost_ret (v := .tuple #[gridV k C (.slice (some ⟨gx, 0, none⟩) k xc), .bool true]) ?_ rfl ⟨_, rfl, by rw [← HE.out]; exact HOF.out, HB3'.out⟩
      simp [results, Try.results66, go_sem, q0, q1, q2, gridV]
end Go.Proofs.Ytiajdmoppgpgnaa
/-
  grid.add of the program: a grid is added into another one.
-/
namespace Go.Proofs.Ytiajdmoppgpgnaa
open Go.RowKit
set_option maxRecDepth 100000

/-- A place in a variable. -/
def PlaceAt (w : World) (g : Nat) (y x : Int) : Prop := w.heap[g]? = some (.cells #[.int .i64 y, .int .i64 x] 90 (0, 0))
theorem placeAt_lt {w : World} {g : Nat} {y x : Int} (h : PlaceAt w g y x) : g < w.heap.size := (Array.getElem?_eq_some_iff.1 h).1
theorem placeAt_below {w w' : World} {g : Nat} {r c : Int} (h : PlaceAt w g r c) (hb : Below w.heap.size w w') : PlaceAt w' g r c := by
  unfold PlaceAt; rw [hb.block g (placeAt_lt h)]; exact h
theorem placeAt_cells {w : World} {g : Nat} {y x : Int} (h : PlaceAt w g y x) : w.cell? ⟨g, 0, none⟩ = some (.int .i64 y) ∧ w.cell? ⟨g, 1, none⟩ = some (.int .i64 x) :=
  ⟨by rw [cell_of_row w g 0 _ _ _ h]; rfl, by rw [cell_of_row w g 1 _ _ _ h]; rfl⟩
theorem placeAt_cell {w : World} {g : Nat} {y x : Int} (h : PlaceAt w g y x) (p : Addr) (v : Value) (hne : g ≠ p.block) : PlaceAt (w.setCell p v) g y x := by
  unfold PlaceAt; rw [heap_setCell_other w p g v hne]; exact h
theorem gridAt_cell {w : World} {g : Nat} {y x : Int} {u : Value} (h : GridAt w g y x u) (p : Addr) (v : Value) (hne : g ≠ p.block) : GridAt (w.setCell p v) g y x u := by
  unfold GridAt; rw [heap_setCell_other w p g v hne]; exact h
theorem exec_storeIntG {ρ : Operand → Value} {o : Oper} {w : World} {x y : Operand} {g k : Nat} {u v : Int} (ho : o.op = .store 3 x y) (hx : ρ x = .pointer (some ⟨g, k, none⟩)) (hy : ρ y = .int .i64 v) (h1 : w.cell? ⟨g, k, none⟩ = some (.int .i64 u)) (f1 : w.frozen? ⟨g, k, none⟩ = false) :
    (execOp ρ o).run Try.prog w = .ok .skip (w.setCell ⟨g, k, none⟩ (.int .i64 v)) := by
  unfold execOp
  simp only [ho, hx, hy]
  go_simp
/-- The numbers behind a rows of the other grid and b elements of the next one. -/
def addF (F G : Nat → Nat → Int) (fac : Int) (y0 x0 C2 a b : Nat) (y x : Nat) : Int :=
  if y0 ≤ y ∧ x0 ≤ x ∧ x < x0 + C2 ∧ (y < y0 + a ∨ (y = y0 + a ∧ x < x0 + b)) then IntKind.i64.wrap (F y x + IntKind.i64.wrap (fac * G (y - y0) (x - x0))) else F y x
theorem addF_zero (F G : Nat → Nat → Int) (fac : Int) (y0 x0 C2 : Nat) : addF F G fac y0 x0 C2 0 0 = F := by
  funext y x
  unfold addF
  rw [if_neg]
  omega
theorem addF_row (F G : Nat → Nat → Int) (fac : Int) (y0 x0 C2 a : Nat) : addF F G fac y0 x0 C2 a C2 = addF F G fac y0 x0 C2 (a + 1) 0 := by
  funext y x
  unfold addF
  by_cases h : y0 ≤ y ∧ x0 ≤ x ∧ x < x0 + C2 ∧ (y < y0 + a ∨ (y = y0 + a ∧ x < x0 + C2))
  · rw [if_pos h, if_pos (by omega)]
  · rw [if_neg h, if_neg (by omega)]
theorem addF_step (F G : Nat → Nat → Int) (fac : Int) (y0 x0 C2 a b : Nat) (hb : b < C2) :
    (fun i j => if i = y0 + a ∧ j = x0 + b then IntKind.i64.wrap (addF F G fac y0 x0 C2 a b (y0 + a) (x0 + b) + IntKind.i64.wrap (fac * G a b)) else addF F G fac y0 x0 C2 a b i j) = addF F G fac y0 x0 C2 a (b + 1) := by
  funext y x
  by_cases e : y = y0 + a ∧ x = x0 + b
  · obtain ⟨rfl, rfl⟩ := e
    rw [if_pos ⟨rfl, rfl⟩]
    unfold addF
    rw [if_neg (by omega), if_pos (by omega), show y0 + a - y0 = a by omega, show x0 + b - x0 = b by omega]
  · rw [if_neg e]
    unfold addF
    by_cases h : y0 ≤ y ∧ x0 ≤ x ∧ x < x0 + C2 ∧ (y < y0 + a ∨ (y = y0 + a ∧ x < x0 + b))
    · rw [if_pos h, if_pos (by omega)]
    · rw [if_neg h, if_neg (by omega)]
/-- A grid that reads as G and lies outside of the blocks from lo up to hi. -/
def OutMat (w : World) (lo hi : Nat) (q : Value) (R C : Nat) (G : Nat → Nat → Int) : Prop :=
  ∃ g o c, q = .slice (some ⟨g, o, none⟩) R c ∧ (g < lo ∨ hi ≤ g) ∧ g < w.heap.size ∧ ∀ y, y < R → ∃ g' o' c', w.cell? ⟨g, o + y, none⟩ = some (.slice (some ⟨g', o', none⟩) C c') ∧ (g' < lo ∨ hi ≤ g') ∧ g' < w.heap.size ∧ ∀ x, x < C → w.cell? ⟨g', o' + x, none⟩ = some (.int .i64 (G y x))
theorem out_cell {w w' : World} {lo hi g o : Nat} (hw : Within lo hi w w') (ha : g < lo ∨ hi ≤ g) (hg : g < w.heap.size) {u : Option Value} (h : w.cell? ⟨g, o, none⟩ = u) : w'.cell? ⟨g, o, none⟩ = u := by
  rw [← h]
  simp [World.cell?, hw.block g hg ha]
theorem outMat_in {w0 w : World} {lo hi R C : Nat} {q : Value} {G : Nat → Nat → Int} (h : InMat w0 q (mkM R C G)) (hB : Below w0.heap.size w0 w) (hlo : w0.heap.size ≤ lo) (hR : 0 < R) (hC : 0 < C) : OutMat w lo hi q R C G := by
  obtain ⟨g, o, c, rfl, hg, hrow⟩ := inMat_img h hR hC
  have hs := hB.size
  refine ⟨g, o, c, rfl, .inl (by omega), by omega, fun y hy => ?_⟩
  obtain ⟨g', o', c', h1, h2, h3⟩ := hrow y hy
  exact ⟨g', o', c', below_cell hB hg h1, .inl (by omega), by omega, fun x hx => below_cell hB h2 (h3 x hx)⟩
theorem outMat_own {w : World} {lo hi lo2 hi2 R C : Nat} {q : Value} {G : Nat → Nat → Int} (h : OwnMat w lo2 hi2 q (mkM R C G)) (ha : hi ≤ lo2) (hR : 0 < R) (hC : 0 < C) : OutMat w lo hi q R C G := by
  have hin := inMat_own h
  obtain ⟨g, o, c, rfl, hg, hrow⟩ := inMat_img hin hR hC
  obtain ⟨vs, ho, hoh, hr, -⟩ := h
  have hgo : lo2 ≤ g := (ho.lt g rfl).1
  have ho0 : o = 0 := by
    rcases ho.2 with ⟨e, -⟩ | ⟨g2, cap, cur, e, -⟩
    · cases e
    · simp only [Value.slice.injEq, Option.some.injEq, Addr.mk.injEq] at e
      exact e.1.2.1
  subst ho0
  refine ⟨g, 0, c, rfl, .inr (Nat.le_trans ha hgo), hg, fun y hy => ?_⟩
  obtain ⟨g', o', c', h1, h2, h3⟩ := hrow y hy
  refine ⟨g', o', c', h1, .inr ?_, h2, h3⟩
  have hy' : y < (mkM R C G).length := by rw [mkM_len]; exact hy
  have ho2 := ho
  rw [mkM_len] at ho2
  have hv := ho2.cellAt y (Nat.lt_of_lt_of_eq hy (Nat.mul_one _).symm)
  rw [Nat.zero_add] at h1
  have hvs : vs.getD y undef = .slice (some ⟨g', o', none⟩) C c' := by
    have h2 := Eq.trans hv.symm h1
    rw [List.getD_eq_getElem?_getD, h2]; rfl
  have hrr := (hr y hy').1
  rw [hvs] at hrr
  have hrl : lo2 ≤ g' := (hrr.lt g' rfl).1
  exact Nat.le_trans ha hrl
set_option maxHeartbeats 4000000 in
theorem add_any (p q : Value) (R C R2 C2 y0 x0 : Nat) (F G : Nat → Nat → Int) (fac : Int) (lo hi : Nat) (w : World) (hp : OwnMat w lo hi p (mkM R C F)) (hq : OutMat w lo hi q R2 C2 G) (hhi : hi ≤ w.heap.size)
    (hR : y0 + R2 ≤ R) (hC : x0 + C2 ≤ C) (hR2 : 1 ≤ R2) (hC2 : 1 ≤ C2) (hRm : R ≤ 100) (hCm : C ≤ 100) :
    Calls Try.prog 84 #[gridV R C p, gridV R2 C2 q, .int .i64 fac, .agg #[.int .i64 y0, .int .i64 x0]] w fun e w' => e = .returned (.tuple #[]) ∧ OwnMat w' lo hi p (mkM R C (addF F G fac y0 x0 C2 R2 0)) ∧ Within lo hi w w' := by
  obtain ⟨gq, oq, qc, rfl, hga, hgq, hrow⟩ := hq
  have HROW := hide hrow
  obtain ⟨gp, pc, rfl⟩ : ∃ gp pc, p = .slice (some ⟨gp, 0, none⟩) R pc := by
    obtain ⟨vs, ho, -⟩ := hp
    rcases ho.2 with ⟨e, h0⟩ | ⟨g', cap', cur, e, _⟩
    · rw [mkM_len] at h0; omega
    · rw [mkM_len] at e; exact ⟨_, _, e⟩
  have HO := hide hp; have HGA := hide hga
  have HG1 : Hid (∀ w : World, GridAt (w.alloc (.cells #[.int .i64 R, .int .i64 C, .slice (some ⟨gp, 0, none⟩) R pc] 75)) w.heap.size R C (.slice (some ⟨gp, 0, none⟩) R pc)) := hide fun w => heap_alloc_new w _
  have HG2 : Hid (∀ w : World, GridAt (w.alloc (.cells #[.int .i64 R2, .int .i64 C2, .slice (some ⟨gq, oq, none⟩) R2 qc] 75)) w.heap.size R2 C2 (.slice (some ⟨gq, oq, none⟩) R2 qc)) := hide fun w => heap_alloc_new w _
  have HG3 : Hid (∀ w : World, PlaceAt (w.alloc (.cells #[.int .i64 y0, .int .i64 x0] 90)) w.heap.size y0 x0) := hide fun w => heap_alloc_new w _
  have HA : Hid (∀ (w : World) (o : Obj), Below w.heap.size w (w.alloc o)) := hide fun w o => (Below.refl _ _).alloc (Nat.le_refl _) o
  have H1 := hide (HG1.out w)
  have B1 := hide (HA.out w (.cells #[.int .i64 R, .int .i64 C, .slice (some ⟨gp, 0, none⟩) R pc] 75))
  obtain ⟨w1, hw1⟩ : ∃ w1, w1 = w.alloc (.cells #[.int .i64 R, .int .i64 C, .slice (some ⟨gp, 0, none⟩) R pc] 75) := ⟨_, rfl⟩
  have hz1 : w1.heap.size = w.heap.size + 1 := by rw [hw1]; simp
  rw [← hw1] at H1 B1
  have H2 := hide (HG2.out w1)
  have B2 := hide (HA.out w1 (.cells #[.int .i64 R2, .int .i64 C2, .slice (some ⟨gq, oq, none⟩) R2 qc] 75))
  obtain ⟨w2, hw2⟩ : ∃ w2, w2 = w1.alloc (.cells #[.int .i64 R2, .int .i64 C2, .slice (some ⟨gq, oq, none⟩) R2 qc] 75) := ⟨_, rfl⟩
  have hz2 : w2.heap.size = w.heap.size + 2 := by rw [hw2]; simp [hz1]
  rw [← hw2] at H2 B2
  have H3 := hide (HG3.out w2)
  have B3 := hide (HA.out w2 (.cells #[.int .i64 y0, .int .i64 x0] 90))
  obtain ⟨w3, hw3⟩ : ∃ w3, w3 = w2.alloc (.cells #[.int .i64 y0, .int .i64 x0] 90) := ⟨_, rfl⟩
  have hz3 : w3.heap.size = w.heap.size + 3 := by rw [hw3]; simp [hz2]
  rw [← hw3] at H3 B3
  have HW3 : Hid (w3 = ((w.alloc (.cells #[.int .i64 R, .int .i64 C, .slice (some ⟨gp, 0, none⟩) R pc] 75)).alloc (.cells #[.int .i64 R2, .int .i64 C2, .slice (some ⟨gq, oq, none⟩) R2 qc] 75)).alloc (.cells #[.int .i64 y0, .int .i64 x0] 90)) := hide (by rw [hw3, hw2, hw1])
  have K1 : Hid (GridAt w3 w.heap.size R C (.slice (some ⟨gp, 0, none⟩) R pc)) := hide (gridAt_below (gridAt_below H1.out B2.out) B3.out)
  have K2 : Hid (GridAt w3 (w.heap.size + 1) R2 C2 (.slice (some ⟨gq, oq, none⟩) R2 qc)) := hide (gridAt_below (by rw [← hz1]; exact H2.out) B3.out)
  have K3 : Hid (PlaceAt w3 (w.heap.size + 2) y0 x0) := hide (by rw [← hz2]; exact H3.out)
  have B12 := B1.out.trans (B2.out.mono B1.out.size)
  have KB := hide (B12.trans (B3.out.mono B12.size))
  have KO := hide (ownMat_below hp KB.out)
  have KZ := hide (Nat.le_of_eq hz3.symm)
  obtain ⟨q0, q1, q2⟩ := gridAt_cells K2.out
  clear hp hga hrow hw1 hw2 hw3 hz1 hz2 hz3 H1 H2 H3 B1 B2 B3 HG1 HG2 HG3 B12 HA HO
  have HZ0 := hide (addF_zero F G fac y0 x0 C2)
  have HRW := hide (addF_row F G fac y0 x0 C2)
  unfold gridV
  rw [HW3.out] at q0 q1 q2
  go_enter Try.func84, Try.ntmps84
  go_wp2
  rw [← HW3.out]
  clear q0 q1 q2 HW3
  go_loopw [15] (fun i w' => ∃ a : Nat, a ≤ R2 ∧ i = .int .i64 a ∧ OwnMat w' lo hi (.slice (some ⟨gp, 0, none⟩) R pc) (mkM R C (addF F G fac y0 x0 C2 a 0)) ∧ GridAt w' w.heap.size R C (.slice (some ⟨gp, 0, none⟩) R pc) ∧ GridAt w' (w.heap.size + 1) R2 C2 (.slice (some ⟨gq, oq, none⟩) R2 qc) ∧ PlaceAt w' (w.heap.size + 2) y0 x0 ∧ Within lo hi w w' ∧ w.heap.size + 3 ≤ w'.heap.size) (fun i _ => R2 - (intOf i).toNat)
  case atStart => exact ⟨0, Nat.zero_le _, rfl, by rw [HZ0.out]; exact KO.out, K1.out, K2.out, K3.out, within_below KB.out, KZ.out⟩
  case round =>
    clear K1 K2 K3 KB KO KZ
    obtain ⟨wo, rfl⟩ : ∃ wo, wo = wr := ⟨_, rfl⟩
    obtain ⟨a, ha, rfl, ho, h1, h2, h3, hw, hsz⟩ := hrel
    have HO := hide ho; have HG1 := hide h1; have HG2 := hide h2; have HG3 := hide h3; have HW := hide hw; have HSZ := hide hsz
    obtain ⟨q0, q1, q2⟩ := gridAt_cells h2
    clear ho h1 h2 h3 hw hsz
    by_cases hla : a < R2
    · have hlaI : (a : Int) < R2 := by omega
      obtain ⟨gs, os, cs, hcr, hgsa, hgs, hcell⟩ := HROW.out a hla
      have HGSA := hide hgsa
      have hcr := out_cell HW.out HGA.out hgq hcr
      have HCELL := hide hcell
      clear hcell hgsa
      go_wp2
      clear q0 q1 q2 hcr
      go_loopw [22] (fun i w' => ∃ b : Nat, b ≤ C2 ∧ i = .int .i64 b ∧ OwnMat w' lo hi (.slice (some ⟨gp, 0, none⟩) R pc) (mkM R C (addF F G fac y0 x0 C2 a b)) ∧ GridAt w' w.heap.size R C (.slice (some ⟨gp, 0, none⟩) R pc) ∧ GridAt w' (w.heap.size + 1) R2 C2 (.slice (some ⟨gq, oq, none⟩) R2 qc) ∧ PlaceAt w' (w.heap.size + 2) y0 x0 ∧ Within lo hi w w' ∧ w.heap.size + 3 ≤ w'.heap.size) (fun i _ => C2 - (intOf i).toNat)
      case atStart => exact ⟨0, Nat.zero_le _, rfl, HO.out, HG1.out, HG2.out, HG3.out, HW.out, HSZ.out⟩
      case round =>
        clear HO HG1 HG2 HG3 HW HSZ
        obtain ⟨b, hb, rfl, ho, h1, h2, h3, hw, hsz⟩ := hrel
        have HO := hide ho; have HG1 := hide h1; have HG2 := hide h2; have HG3 := hide h3; have HW := hide hw; have HSZ := hide hsz
        clear ho h2 hw
        by_cases hlb : b < C2
        · have hlbI : (b : Int) < C2 := by omega
          have hcx := out_cell HW.out HGSA.out hgs (HCELL.out b hlb)
          obtain ⟨Y, hY⟩ : ∃ Y, Y = y0 + a := ⟨_, rfl⟩
          obtain ⟨X, hX⟩ : ∃ X, X = x0 + b := ⟨_, rfl⟩
          obtain ⟨gr, rc, hcrow, hcl, hfr, hgl, hgh, hset⟩ := ownMat_cell HO.out Y X (by omega) (by omega)
          have HSET := hide hset
          have HST := hide (addF_step F G fac y0 x0 C2 a b hlb)
          obtain ⟨p0, p1, p2⟩ := gridAt_cells h1
          obtain ⟨l0, l1⟩ := placeAt_cells h3
          obtain ⟨n, hn⟩ : ∃ n, n = G a b := ⟨_, rfl⟩
          obtain ⟨c, hc⟩ : ∃ c, c = addF F G fac y0 x0 C2 a b Y X := ⟨_, rfl⟩
          obtain ⟨mv, hmv⟩ : ∃ mv, mv = IntKind.i64.wrap (fac * n) := ⟨_, rfl⟩
          obtain ⟨sv, hsv⟩ : ∃ sv, sv = IntKind.i64.wrap (c + mv) := ⟨_, rfl⟩
          have hmv2 := hmv.symm
          have hsv2 := hsv.symm
          rw [← hY, ← hX, ← hc, ← hn, ← hmv, ← hsv] at HST
          rw [← hn] at hcx
          rw [← hc] at hcl
          have hyI : (y0 : Int) + (a : Int) = (Y : Int) := by omega
          have hxI : (x0 : Int) + (b : Int) = (X : Int) := by omega
          have hyR : (Y : Int) < R := by omega
          have hxC : (X : Int) < C := by omega
          have hyW : IntKind.i64.wrap (Y : Int) = Y := IntWalk.i64_in _ (by omega)
          have hxW : IntKind.i64.wrap (X : Int) = X := IntWalk.i64_in _ (by omega)
          clear hY hX
          clear h1 h3 hset hn hc hmv hsv
          go_upto_region 7 with fail
          obtain ⟨fs, hfs⟩ : ∃ fs : List FactP, fs = [(isV (.pointer (some ⟨w.heap.size, 2, none⟩))), (isV (.slice (some ⟨gp, 0, none⟩) R pc)), (isV (.pointer (some ⟨w.heap.size + 2, 0, none⟩))), (isV (.int .i64 ((y0 : Int)))), (isV (.int .i64 ((a : Int)))), (isV (.int .i64 ((Y : Int)))), (isV (.pointer (some ⟨gp, Y, none⟩))), (isV (.slice (some ⟨gr, 0, none⟩) C rc)), (isV (.pointer (some ⟨w.heap.size + 2, 1, none⟩))), (isV (.int .i64 ((x0 : Int)))), (isV (.int .i64 ((b : Int)))), (isV (.int .i64 ((X : Int)))), (isV (.pointer (some ⟨gr, X, none⟩))), (isV (.int .i64 (c))), (isV (.int .i64 (fac))), (isV (.int .i64 (n))), (isV (.int .i64 (mv))), (isV (.int .i64 (sv))), (isV (.pointer (some ⟨gr, X, none⟩)))] := ⟨_, rfl⟩
          have hst : ∀ f ∈ fs, StableP f := by
            rw [hfs]; intro f hf
            simp only [List.mem_cons, List.not_mem_nil, or_false] at hf
            rcases hf with rfl | rfl | rfl | rfl | rfl | rfl | rfl | rfl | rfl | rfl | rfl | rfl | rfl | rfl | rfl | rfl | rfl | rfl | rfl <;> exact stable_v _
          subst hfs
          refine wp_region_g (S := fun w2 => w2 = wr.drew) [(isV (.pointer (some ⟨w.heap.size, 2, none⟩))), (isV (.slice (some ⟨gp, 0, none⟩) R pc)), (isV (.pointer (some ⟨w.heap.size + 2, 0, none⟩))), (isV (.int .i64 ((y0 : Int)))), (isV (.int .i64 ((a : Int)))), (isV (.int .i64 ((Y : Int)))), (isV (.pointer (some ⟨gp, Y, none⟩))), (isV (.slice (some ⟨gr, 0, none⟩) C rc)), (isV (.pointer (some ⟨w.heap.size + 2, 1, none⟩))), (isV (.int .i64 ((x0 : Int)))), (isV (.int .i64 ((b : Int)))), (isV (.int .i64 ((X : Int)))), (isV (.pointer (some ⟨gr, X, none⟩))), (isV (.int .i64 (c))), (isV (.int .i64 (fac))), (isV (.int .i64 (n))), (isV (.int .i64 (mv))), (isV (.int .i64 (sv))), (isV (.pointer (some ⟨gr, X, none⟩)))] [(2, .int .i64 (fac)), (4, .pointer (some ⟨w.heap.size, 0, none⟩)), (7, .pointer (some ⟨w.heap.size + 2, 0, none⟩)), (8, .int .i64 ((a : Int))), (10, .int .i64 ((b : Int))), (11, .int .i64 (n))] _ _ 19 (by kernel_rfl) rfl rfl (by kernel_rfl) (by kernel_rfl) rfl (by kernel_rfl) ?base rfl ?ob rfl ?fin
          case base =>
            intro t v ht
            simp only [List.lookup_cons, List.lookup_nil] at ht
            repeat' split at ht
            all_goals first | (cases ht; done) | (obtain rfl := Option.some.inj ht; rename_i hh; obtain rfl := eq_of_beq hh; rfl)
          case ob =>
            exact ⟨obg_of rfl (obt_one (.pointer (some ⟨w.heap.size, 2, none⟩)) rfl rfl (srt_b 4 rfl) (fun ρ w2 hS hx => by subst hS; go_simp)),
              obg_of rfl (obt_one (.slice (some ⟨gp, 0, none⟩) R pc) rfl rfl (srt_j 0 rfl (by kernel_rfl) rfl) (fun ρ w2 hS hx => by subst hS; go_simp)),
              obg_of rfl (obt_one (.pointer (some ⟨w.heap.size + 2, 0, none⟩)) rfl rfl (srt_b 7 rfl) (fun ρ w2 hS hx => by subst hS; go_simp)),
              obg_of rfl (obt_one (.int .i64 ((y0 : Int))) rfl rfl (srt_j 2 rfl (by kernel_rfl) rfl) (fun ρ w2 hS hx => by subst hS; go_simp)),
              obg_of rfl (obt_move (.int .i64 ((a : Int))) rfl rfl rfl (srt_b 8 rfl)),
              obg_of rfl (obt_two (.int .i64 ((Y : Int))) rfl rfl (srt_j 3 rfl (by kernel_rfl) rfl) (srt_j 4 rfl (by kernel_rfl) rfl) (fun ρ w2 hS hx hy => by subst hS; go_simp)),
              obg_of rfl (obt_two (.pointer (some ⟨gp, Y, none⟩)) rfl rfl (srt_j 1 rfl (by kernel_rfl) rfl) (srt_j 5 rfl (by kernel_rfl) rfl) (fun ρ w2 hS hx hy => by subst hS; go_simp)),
              obg_of rfl (obt_one (.slice (some ⟨gr, 0, none⟩) C rc) rfl rfl (srt_j 6 rfl (by kernel_rfl) rfl) (fun ρ w2 hS hx => by subst hS; go_simp)),
              obg_of rfl (obt_one (.pointer (some ⟨w.heap.size + 2, 1, none⟩)) rfl rfl (srt_b 7 rfl) (fun ρ w2 hS hx => by subst hS; go_simp)),
              obg_of rfl (obt_one (.int .i64 ((x0 : Int))) rfl rfl (srt_j 8 rfl (by kernel_rfl) rfl) (fun ρ w2 hS hx => by subst hS; go_simp)),
              obg_of rfl (obt_move (.int .i64 ((b : Int))) rfl rfl rfl (srt_b 10 rfl)),
              obg_of rfl (obt_two (.int .i64 ((X : Int))) rfl rfl (srt_j 9 rfl (by kernel_rfl) rfl) (srt_j 10 rfl (by kernel_rfl) rfl) (fun ρ w2 hS hx hy => by subst hS; go_simp)),
              obg_of rfl (obt_two (.pointer (some ⟨gr, X, none⟩)) rfl rfl (srt_j 7 rfl (by kernel_rfl) rfl) (srt_j 11 rfl (by kernel_rfl) rfl) (fun ρ w2 hS hx hy => by subst hS; go_simp)),
              obg_of rfl (obt_one (.int .i64 (c)) rfl rfl (srt_j 12 rfl (by kernel_rfl) rfl) (fun ρ w2 hS hx => by subst hS; go_simp)),
              obg_of rfl (obt_move (.int .i64 (fac)) rfl rfl rfl (srt_b 2 rfl)),
              obg_of rfl (obt_move (.int .i64 (n)) rfl rfl rfl (srt_b 11 rfl)),
              obg_of rfl (obt_two (.int .i64 (mv)) rfl rfl (srt_j 14 rfl (by kernel_rfl) rfl) (srt_j 15 rfl (by kernel_rfl) rfl) (fun ρ w2 hS hx hy => by subst hS; go_simp)),
              obg_of rfl (obt_two (.int .i64 (sv)) rfl rfl (srt_j 13 rfl (by kernel_rfl) rfl) (srt_j 16 rfl (by kernel_rfl) rfl) (fun ρ w2 hS hx hy => by subst hS; go_simp)),
              obg_of rfl (obt_two (.pointer (some ⟨gr, X, none⟩)) rfl rfl (srt_j 7 rfl (by kernel_rfl) rfl) (srt_j 11 rfl (by kernel_rfl) rfl) (fun ρ w2 hS hx hy => by subst hS; go_simp)),
              trivial⟩
          case fin =>
            intro a' w' h1 h2 h3 hS h4 K hK
            have ha := frame_ov rfl h1 h2 h3 [(27, .pointer (some ⟨w.heap.size, 2, none⟩)), (28, .slice (some ⟨gp, 0, none⟩) R pc), (29, .pointer (some ⟨w.heap.size + 2, 0, none⟩)), (30, .int .i64 ((y0 : Int))), (31, .int .i64 ((a : Int))), (32, .int .i64 ((Y : Int))), (33, .pointer (some ⟨gp, Y, none⟩)), (34, .slice (some ⟨gr, 0, none⟩) C rc), (35, .pointer (some ⟨w.heap.size + 2, 1, none⟩)), (36, .int .i64 ((x0 : Int))), (37, .int .i64 ((b : Int))), (38, .int .i64 ((X : Int))), (39, .pointer (some ⟨gr, X, none⟩)), (40, .int .i64 (c)), (41, .int .i64 (fac)), (42, .int .i64 (n)), (43, .int .i64 (mv)), (44, .int .i64 (sv)), (45, .pointer (some ⟨gr, X, none⟩))] (by kernel_rfl) ⟨h4 0 27 rfl (by decide), h4 1 28 rfl (by decide), h4 2 29 rfl (by decide), h4 3 30 rfl (by decide), h4 4 31 rfl (by decide), h4 5 32 rfl (by decide), h4 6 33 rfl (by decide), h4 7 34 rfl (by decide), h4 8 35 rfl (by decide), h4 9 36 rfl (by decide), h4 10 37 rfl (by decide), h4 11 38 rfl (by decide), h4 12 39 rfl (by decide), h4 13 40 rfl (by decide), h4 14 41 rfl (by decide), h4 15 42 rfl (by decide), h4 16 43 rfl (by decide), h4 17 44 rfl (by decide), h4 18 45 rfl (by decide), trivial⟩
            dsimp only [ov, List.lookup, Nat.reduceBEq, Nat.reduceAdd] at ha
            have v45 : a'.tmps.getD 45 undef = .pointer (some ⟨gr, X, none⟩) := h4 18 45 rfl (by decide)
            have v44 : a'.tmps.getD 44 undef = .int .i64 (sv) := h4 17 44 rfl (by decide)
            subst hS
            refine run_skip (exec_storeIntG (u := c) rfl v45 v44 hcl hfr) (hK undef _ ?_)
            show Exit.inBlock _ _ Exit.normal a' _
            have E1 : Hid (OwnMat (wr.drew.setCell ⟨gr, X, none⟩ (.int .i64 sv)) lo hi (.slice (some ⟨gp, 0, none⟩) R pc) (mkM R C (addF F G fac y0 x0 C2 a (b + 1)))) := hide (by have := HSET.out sv; rw [HST.out] at this; exact this)
            have E2 : Hid (GridAt (wr.drew.setCell ⟨gr, X, none⟩ (.int .i64 sv)) w.heap.size R C (.slice (some ⟨gp, 0, none⟩) R pc)) := hide (gridAt_cell HG1.out _ _ (by simp; omega))
            have E3 : Hid (GridAt (wr.drew.setCell ⟨gr, X, none⟩ (.int .i64 sv)) (w.heap.size + 1) R2 C2 (.slice (some ⟨gq, oq, none⟩) R2 qc)) := hide (gridAt_cell HG2.out _ _ (by simp; omega))
            have E4 : Hid (PlaceAt (wr.drew.setCell ⟨gr, X, none⟩ (.int .i64 sv)) (w.heap.size + 2) y0 x0) := hide (placeAt_cell HG3.out _ _ (by simp; omega))
            have E5 : Hid (Within lo hi w (wr.drew.setCell ⟨gr, X, none⟩ (.int .i64 sv))) := hide (within_trans HW.out ⟨rfl, rfl, rfl, by simp, fun k hk hne => heap_setCell_other _ _ _ _ (fun e => by simp at e; omega)⟩)
            have E6 : Hid (w.heap.size + 3 ≤ (wr.drew.setCell ⟨gr, X, none⟩ (.int .i64 sv)).heap.size) := hide (by simp; exact HSZ.out)
            clear v44 v45
            generalize wr.drew.setCell ⟨gr, X, none⟩ (.int .i64 sv) = w9 at E1 E2 E3 E4 E5 E6 ⊢
            rw [ha]
            clear ha h1 h2 h3 h4 hst hK
            go_wp2
            go_roundw
            case rel => exact ⟨b + 1, by omega, by go_num, E1.out, E2.out, E3.out, E4.out, E5.out, E6.out⟩
            case measure => simp [intOf]; omega
        · obtain rfl : b = C2 := by omega
          go_wp2
          go_roundw
          case rel => exact ⟨a + 1, by omega, by go_num, by rw [← HRW.out a]; exact HO.out, HG1.out, HG2.out, HG3.out, HW.out, HSZ.out⟩
          case measure => simp [intOf]; omega
    · obtain rfl : a = R2 := by omega
      go_wp2
      exact bodyPost_end (v := .tuple #[]) (by simp [results, Try.results84]) rfl ⟨rfl, HO.out, HW.out⟩
end Go.Proofs.Ytiajdmoppgpgnaa
/-
  AddGhost of the program.
-/
namespace Go.Proofs.Ytiajdmoppgpgnaa
open Go.RowKit
set_option maxRecDepth 100000

/-- The image to which a grid is added. -/
def aghF (m g : List (List Int)) (y x : Int) : Nat → Nat → Int := addF (elM m) (elM g) 1 y.toNat x.toNat (widthM g) g.length 0
def aghS (m g : List (List Int)) (y x : Int) : List (List Int) := mkM m.length (widthM m) (aghF m g y x)
def aghB (m g : List (List Int)) (y x : Int) : Bool := okB m && gridB g && holdsB m.length (widthM m) g.length (widthM g) y x && okB (aghS m g y x)
def aghM (m g : List (List Int)) (y x : Int) : List (List Int) := if aghB m g y x = true then aghS m g y x else []
theorem gridOf_any (v : Value) (m : List (List Int)) (w : World) (hin : InMat w v m) :
    Calls Try.prog 66 #[v] w fun e w' => ∃ (R C : Int) (a : Option Addr) (n c : Nat), e = .returned (.tuple #[gridV R C (.slice a n c), .bool (gridB m)]) ∧ Below w.heap.size w w' := by
  cases h : gridB m with
  | false => exact (gridOf_no v m w hin h).mono fun e w' ⟨he, hb⟩ => ⟨0, 0, none, 0, 0, he, hb⟩
  | true =>
    obtain ⟨hm, hR, hC⟩ := gridB_mk h
    have h1 : InMat w v (mkM m.length (widthM m) (elM m)) := by rw [← hm]; exact hin
    refine (gridOf_yes v _ _ _ w h1 hR hC).mono fun e w' ⟨u, he, ho, hb⟩ => ?_
    obtain ⟨a, n, c, rfl⟩ := ownMat_slice ho
    exact ⟨_, _, a, n, c, he, hb⟩
theorem elM_mk {R C : Nat} {f : Nat → Nat → Int} {y x : Nat} (hy : y < R) (hx : x < C) : elM (mkM R C f) y x = f y x := by rw [elM, List.getD_eq_getElem?_getD, List.getD_eq_getElem?_getD, List.getElem?_eq_getElem (show y < (mkM R C f).length by rw [mkM_len]; exact hy), Option.getD_some, mkM_at, List.getElem?_eq_getElem (by rw [rowF_len]; exact hx), Option.getD_some, rowF_at]
theorem okB_elM {m : List (List Int)} (h : okB m = true) : Img m.length (widthM m) (elM m) := by
  obtain ⟨R, C, f, rfl, hI⟩ := ok_img h
  have h1 := hI.r1; have h2 := hI.r2; have h3 := hI.c1; have h4 := hI.c2
  have hw := width_mkM (C := C) (f := f) (show 0 < R by omega)
  rw [hw, mkM_len]
  refine ⟨h1, h2, h3, h4, fun y x hy hx => ?_⟩
  rw [elM_mk hy hx]
  exact hI.cell y x hy hx
theorem out_below {w w' : World} {lo hi R C : Nat} {q : Value} {G : Nat → Nat → Int} (h : OutMat w lo hi q R C G) (hb : Below w.heap.size w w') : OutMat w' lo hi q R C G := by
  obtain ⟨g, o, c, rfl, ha, hg, hrow⟩ := h
  have hs := hb.size
  refine ⟨g, o, c, rfl, ha, by omega, fun y hy => ?_⟩
  obtain ⟨g', o', c', h1, h2, h3, h4⟩ := hrow y hy
  exact ⟨g', o', c', below_cell hb hg h1, h2, by omega, fun x hx => below_cell hb h3 (h4 x hx)⟩
theorem okB_grid {m : List (List Int)} (h : okB m = true) : gridB m = true := by
  obtain ⟨R, C, f, rfl, hI⟩ := ok_img h
  have h1 := hI.r1; have h2 := hI.r2; have h3 := hI.c1; have h4 := hI.c2
  have hw := width_mkM (C := C) (f := f) (show 0 < R by omega)
  unfold gridB
  rw [hw, mkM_len, decide_eq_true (show R ≠ 0 by omega), sizeOk, decide_eq_true (show (1 : Int) ≤ R ∧ (R : Int) ≤ 5 by omega), decide_eq_true (show (1 : Int) ≤ C ∧ (C : Int) ≤ 5 by omega)]
  rw [anyRow_no fun r hr => by
    simp only [mkM, List.mem_map] at hr
    obtain ⟨y, -, rfl⟩ := hr
    rw [rowF_len]; simp]
  rfl
set_option maxHeartbeats 4000000 in
theorem implAgh_no (v vg : Value) (m g : List (List Int)) (y x : Int) (w : World) (hin : InMat w v m) (hg : InMat w vg g) (h : okB m = false) :
    Calls Try.prog 40 #[v, vg, .int .i64 y, .int .i64 x] w (MatRes2 [] false w) := by
  have HGB : Hid (∀ (w : World) (R C : Int) (a : Option Addr) (n c : Nat), Below w.heap.size w (w.alloc (.cells #[.int .i64 R, .int .i64 C, .slice a n c] 75))) := hide fun w _ _ _ _ _ => (Below.refl _ _).alloc (Nat.le_refl _) _
  have HI := hide hin; have HG := hide hg; have H := hide h
  have HC1 := hide (gridOf_any v m w hin)
  have HC2 := hide fun (w' : World) (hb : Below w.heap.size w w') => gridOf_any vg g w' (inMat_below hg hb)
  have HK := hide fun (w' : World) (hb : Below w.heap.size w w') => implImageOk_any v m w' (inMat_below hin hb)
  obtain ⟨bm, hbm⟩ : ∃ bm, bm = gridB m := ⟨_, rfl⟩
  obtain ⟨bg, hbg⟩ : ∃ bg, bg = gridB g := ⟨_, rfl⟩
  rw [← hbm] at HC1
  rw [← hbg] at HC2
  rw [h] at HK
  clear hin hg h hbm hbg
  go_enter Try.func40, Try.ntmps40
  go_wp2_with (first | ((with_reducible refine HC1.out.mono ?_); rintro e w1 ⟨R, C, xa, xn, xc, rfl, hb⟩; dsimp only [gridV]; have B1 := hide (hb.trans ((HGB.out w1 R C xa xn xc).mono hb.size)); clear hb) | ((with_reducible refine (HC2.out _ B1.out).mono ?_); rintro e w2 ⟨R2, C2, ya, yn, yc, rfl, hb⟩; dsimp only [gridV]; have B2 := hide (B1.out.trans ((hb.trans ((HGB.out w2 R2 C2 ya yn yc).mono hb.size)).mono B1.out.size)); clear hb) | ((with_reducible refine (HK.out _ B2.out).mono ?_); rintro e w3 ⟨rfl, rfl⟩))
  go_ret2
  exact ⟨_, rfl, ownMat_nil _ _ _, B2.out⟩
set_option maxHeartbeats 4000000 in
theorem implAgh_grid (v vg : Value) (g : List (List Int)) (R C : Nat) (F : Nat → Nat → Int) (y x : Int) (w : World) (hin : InMat w v (mkM R C F)) (hI : Img R C F) (hg : InMat w vg g) (h : gridB g = false) :
    Calls Try.prog 40 #[v, vg, .int .i64 y, .int .i64 x] w (MatRes2 [] false w) := by
  have HGB : Hid (∀ (w : World) (R C : Int) (a : Option Addr) (n c : Nat), Below w.heap.size w (w.alloc (.cells #[.int .i64 R, .int .i64 C, .slice a n c] 75)) ∧ GridAt (w.alloc (.cells #[.int .i64 R, .int .i64 C, .slice a n c] 75)) w.heap.size R C (.slice a n c)) := hide fun w _ _ _ _ _ => ⟨(Below.refl _ _).alloc (Nat.le_refl _) _, heap_alloc_new w _⟩
  have HC1 := hide (gridOf_yes v R C F w hin ⟨hI.r1, hI.r2⟩ ⟨hI.c1, hI.c2⟩)
  have HC2 := hide fun (w' : World) (hb : Below w.heap.size w w') => gridOf_no vg g w' (inMat_below hg hb) h
  have HK := hide fun (w' : World) (hb : Below w.heap.size w w') => implImageOk_any v _ w' (inMat_below hin hb)
  rw [img_ok hI] at HK
  clear hin hg h hI
  go_enter Try.func40, Try.ntmps40
  go_wp2_with (first | ((with_reducible refine HC1.out.mono ?_); rintro e w1 ⟨p, rfl, ho, hb⟩; obtain ⟨xa, xn, xc, rfl⟩ := ownMat_slice ho; dsimp only [gridV]; have O1 := hide (ownMat_below ho (HGB.out w1 R C xa xn xc).1); have P1 := hide (HGB.out w1 R C xa xn xc).2; have B1 := hide (hb.trans ((HGB.out w1 R C xa xn xc).1.mono hb.size)); have S1 := hide (show w1.heap.size ≤ (w1.alloc (.cells #[.int .i64 R, .int .i64 C, .slice xa xn xc] 75)).heap.size from (HGB.out w1 R C xa xn xc).1.size); clear hb ho) | ((with_reducible refine (HC2.out _ B1.out).mono ?_); rintro e w2 ⟨rfl, hb⟩; dsimp only [gridV]; have B2 := hide (B1.out.trans ((hb.trans ((HGB.out w2 0 0 none 0 0).1.mono hb.size)).mono B1.out.size)); clear hb) | ((with_reducible refine (HK.out _ B2.out).mono ?_); rintro e w3 ⟨rfl, rfl⟩))
  go_ret2
  exact ⟨_, rfl, ownMat_nil _ _ _, B2.out⟩
set_option maxHeartbeats 4000000 in
theorem implAgh_out (v vg : Value) (R C R2 C2 : Nat) (F G : Nat → Nat → Int) (y x : Int) (w : World) (hin : InMat w v (mkM R C F)) (hI : Img R C F) (hg : InMat w vg (mkM R2 C2 G)) (hR2 : 1 ≤ R2 ∧ R2 ≤ 5) (hC2 : 1 ≤ C2 ∧ C2 ≤ 5) (h : holdsB R C R2 C2 y x = false) :
    Calls Try.prog 40 #[v, vg, .int .i64 y, .int .i64 x] w (MatRes2 [] false w) := by
  have HGB : Hid (∀ (w : World) (R C : Int) (a : Option Addr) (n c : Nat), Below w.heap.size w (w.alloc (.cells #[.int .i64 R, .int .i64 C, .slice a n c] 75)) ∧ GridAt (w.alloc (.cells #[.int .i64 R, .int .i64 C, .slice a n c] 75)) w.heap.size R C (.slice a n c)) := hide fun w _ _ _ _ _ => ⟨(Below.refl _ _).alloc (Nat.le_refl _) _, heap_alloc_new w _⟩
  have HC1 := hide (gridOf_yes v R C F w hin ⟨hI.r1, hI.r2⟩ ⟨hI.c1, hI.c2⟩)
  have HC2 := hide fun (w' : World) (hb : Below w.heap.size w w') => gridOf_yes vg R2 C2 G w' (inMat_below hg hb) hR2 hC2
  have HK := hide fun (w' : World) (hb : Below w.heap.size w w') => implImageOk_any v _ w' (inMat_below hin hb)
  rw [img_ok hI] at HK
  have r1 := hI.r1; have r2 := hI.r2; have c1 := hI.c1; have c2 := hI.c2
  obtain ⟨r3, r4⟩ := hR2
  obtain ⟨c3, c4⟩ := hC2
  have H := hide h
  clear hin hg h hI
  go_enter Try.func40, Try.ntmps40
  go_wp2_with (first | ((with_reducible refine HC1.out.mono ?_); rintro e w1 ⟨p, rfl, ho, hb⟩; obtain ⟨xa, xn, xc, rfl⟩ := ownMat_slice ho; dsimp only [gridV]; have O1 := hide (ownMat_below ho (HGB.out w1 R C xa xn xc).1); have P1 := hide (HGB.out w1 R C xa xn xc).2; have B1 := hide (hb.trans ((HGB.out w1 R C xa xn xc).1.mono hb.size)); have S1 := hide (show w1.heap.size ≤ (w1.alloc (.cells #[.int .i64 R, .int .i64 C, .slice xa xn xc] 75)).heap.size from (HGB.out w1 R C xa xn xc).1.size); clear hb ho) | ((with_reducible refine (HC2.out _ B1.out).mono ?_); rintro e w2 ⟨q, rfl, ho, hb⟩; obtain ⟨ya, yn, yc, rfl⟩ := ownMat_slice ho; dsimp only [gridV]; have Q2 := hide (outMat_own (lo := w.heap.size) (ownMat_below ho (HGB.out w2 R2 C2 ya yn yc).1) S1.out (by omega) (by omega)); have hB2 := hb.trans ((HGB.out w2 R2 C2 ya yn yc).1.mono hb.size); have O2 := hide (ownMat_below O1.out hB2); have P2 := hide (gridAt_below P1.out hB2); have G2 := hide (HGB.out w2 R2 C2 ya yn yc).2; have B2 := hide (B1.out.trans (hB2.mono B1.out.size)); have S2 := hide (Nat.le_trans S1.out hB2.size); have S3 := hide (Nat.le_trans S1.out hb.size); obtain ⟨p0, p1, p2⟩ := gridAt_cells P2.out; obtain ⟨g0, g1, g2⟩ := gridAt_cells G2.out; clear hb ho hB2) | ((with_reducible refine (HK.out _ B2.out).mono ?_); rintro e w3 ⟨rfl, rfl⟩) | ((with_reducible refine (holds_any R C R2 C2 y x _ (by omega) (by omega) (by omega) (by omega)).mono ?_); rw [H.out]; rintro e w4 ⟨rfl, hb⟩; have B4 := hide (B2.out.trans (hb.mono B2.out.size)); clear hb))
  go_ret2
  exact ⟨_, rfl, ownMat_nil _ _ _, B4.out⟩
set_option maxHeartbeats 8000000 in
theorem implAgh_in (v vg : Value) (R C R2 C2 y0 x0 : Nat) (F G : Nat → Nat → Int) (b : Bool) (w : World) (hin : InMat w v (mkM R C F)) (hI : Img R C F) (hg : InMat w vg (mkM R2 C2 G)) (hR2 : 1 ≤ R2 ∧ R2 ≤ 5) (hC2 : 1 ≤ C2 ∧ C2 ≤ 5) (hy : y0 + R2 ≤ R) (hx : x0 + C2 ≤ C) (hb : okB (mkM R C (addF F G 1 y0 x0 C2 R2 0)) = b) :
    Calls Try.prog 40 #[v, vg, .int .i64 y0, .int .i64 x0] w (MatRes2 (if b = true then mkM R C (addF F G 1 y0 x0 C2 R2 0) else []) b w) := by
  have hld : holdsB R C R2 C2 y0 x0 = true := by
    unfold holdsB
    rw [decide_eq_true (by omega), decide_eq_true (by omega), decide_eq_true (by omega), decide_eq_true (by omega)]; rfl
  have HGB : Hid (∀ (w : World) (R C : Int) (a : Option Addr) (n c : Nat), Below w.heap.size w (w.alloc (.cells #[.int .i64 R, .int .i64 C, .slice a n c] 75)) ∧ GridAt (w.alloc (.cells #[.int .i64 R, .int .i64 C, .slice a n c] 75)) w.heap.size R C (.slice a n c)) := hide fun w _ _ _ _ _ => ⟨(Below.refl _ _).alloc (Nat.le_refl _) _, heap_alloc_new w _⟩
  have HC1 := hide (gridOf_yes v R C F w hin ⟨hI.r1, hI.r2⟩ ⟨hI.c1, hI.c2⟩)
  have HC2 := hide fun (w' : World) (hb : Below w.heap.size w w') => gridOf_yes vg R2 C2 G w' (inMat_below hg hb) hR2 hC2
  have HK := hide fun (w' : World) (hb : Below w.heap.size w w') => implImageOk_any v _ w' (inMat_below hin hb)
  rw [img_ok hI] at HK
  have r1 := hI.r1; have r2 := hI.r2; have c1 := hI.c1; have c2 := hI.c2
  obtain ⟨r3, r4⟩ := hR2
  obtain ⟨c3, c4⟩ := hC2
  have H := hide hld
  clear hin hg hI hld
  cases b with
  | false =>
    have HBB := hide hb
    clear hb
    go_enter Try.func40, Try.ntmps40
    go_wp2_with (first | ((with_reducible refine HC1.out.mono ?_); rintro e w1 ⟨p, rfl, ho, hb⟩; obtain ⟨xa, xn, xc, rfl⟩ := ownMat_slice ho; dsimp only [gridV]; have O1 := hide (ownMat_below ho (HGB.out w1 R C xa xn xc).1); have P1 := hide (HGB.out w1 R C xa xn xc).2; have B1 := hide (hb.trans ((HGB.out w1 R C xa xn xc).1.mono hb.size)); have S1 := hide (show w1.heap.size ≤ (w1.alloc (.cells #[.int .i64 R, .int .i64 C, .slice xa xn xc] 75)).heap.size from (HGB.out w1 R C xa xn xc).1.size); clear hb ho) | ((with_reducible refine (HC2.out _ B1.out).mono ?_); rintro e w2 ⟨q, rfl, ho, hb⟩; obtain ⟨ya, yn, yc, rfl⟩ := ownMat_slice ho; dsimp only [gridV]; have Q2 := hide (outMat_own (lo := w.heap.size) (ownMat_below ho (HGB.out w2 R2 C2 ya yn yc).1) S1.out (by omega) (by omega)); have hB2 := hb.trans ((HGB.out w2 R2 C2 ya yn yc).1.mono hb.size); have O2 := hide (ownMat_below O1.out hB2); have P2 := hide (gridAt_below P1.out hB2); have G2 := hide (HGB.out w2 R2 C2 ya yn yc).2; have B2 := hide (B1.out.trans (hB2.mono B1.out.size)); have S2 := hide (Nat.le_trans S1.out hB2.size); have S3 := hide (Nat.le_trans S1.out hb.size); obtain ⟨p0, p1, p2⟩ := gridAt_cells P2.out; obtain ⟨g0, g1, g2⟩ := gridAt_cells G2.out; clear hb ho hB2) | ((with_reducible refine (HK.out _ B2.out).mono ?_); rintro e w3 ⟨rfl, rfl⟩) | ((with_reducible refine (holds_any R C R2 C2 y0 x0 _ (by omega) (by omega) (by omega) (by omega)).mono ?_); rw [H.out]; rintro e w4 ⟨rfl, hb⟩; have B4 := hide (B2.out.trans (hb.mono B2.out.size)); have O4 := hide (ownMat_below O2.out hb); have P4 := hide (gridAt_below P2.out hb); have G4 := hide (gridAt_below G2.out hb); have Q4 := hide (out_below Q2.out hb); have S4 := hide (Nat.le_trans S2.out hb.size); clear p0 p1 p2 g0 g1 g2; obtain ⟨p0, p1, p2⟩ := gridAt_cells P4.out; obtain ⟨g0, g1, g2⟩ := gridAt_cells G4.out; clear hb) | ((with_reducible refine (add_any _ _ R C R2 C2 y0 x0 F G 1 w.heap.size w1.heap.size w4 O4.out Q4.out S4.out hy hx (by omega) (by omega) (by omega) (by omega)).mono ?_); rintro e w5 ⟨rfl, ho, hw⟩; have O5 := hide ho; have P5 := hide (gridAt_within P4.out hw (.inr (Nat.le_refl _))); have B5 := hide (B4.out.trans (below_within hw (Nat.le_refl _) B4.out.size)); have I5 := hide (implImageOk_any _ _ w5 (inMat_own ho)); have S5 := hide (Nat.le_trans S4.out hw.size); clear p0 p1 p2 g0 g1 g2 ho hw O4 P4 G4 Q4; obtain ⟨p0, p1, p2⟩ := gridAt_cells P5.out) | ((with_reducible refine I5.out.mono ?_); rw [HBB.out]; rintro e w6 ⟨rfl, rfl⟩))
    go_ret2
    exact ⟨_, rfl, ownMat_nil _ _ _, B5.out⟩
  | true =>
    have HBB := hide hb
    clear hb
    go_enter Try.func40, Try.ntmps40
    go_wp2_with (first | ((with_reducible refine HC1.out.mono ?_); rintro e w1 ⟨p, rfl, ho, hb⟩; obtain ⟨xa, xn, xc, rfl⟩ := ownMat_slice ho; dsimp only [gridV]; have O1 := hide (ownMat_below ho (HGB.out w1 R C xa xn xc).1); have P1 := hide (HGB.out w1 R C xa xn xc).2; have B1 := hide (hb.trans ((HGB.out w1 R C xa xn xc).1.mono hb.size)); have S1 := hide (show w1.heap.size ≤ (w1.alloc (.cells #[.int .i64 R, .int .i64 C, .slice xa xn xc] 75)).heap.size from (HGB.out w1 R C xa xn xc).1.size); clear hb ho) | ((with_reducible refine (HC2.out _ B1.out).mono ?_); rintro e w2 ⟨q, rfl, ho, hb⟩; obtain ⟨ya, yn, yc, rfl⟩ := ownMat_slice ho; dsimp only [gridV]; have Q2 := hide (outMat_own (lo := w.heap.size) (ownMat_below ho (HGB.out w2 R2 C2 ya yn yc).1) S1.out (by omega) (by omega)); have hB2 := hb.trans ((HGB.out w2 R2 C2 ya yn yc).1.mono hb.size); have O2 := hide (ownMat_below O1.out hB2); have P2 := hide (gridAt_below P1.out hB2); have G2 := hide (HGB.out w2 R2 C2 ya yn yc).2; have B2 := hide (B1.out.trans (hB2.mono B1.out.size)); have S2 := hide (Nat.le_trans S1.out hB2.size); have S3 := hide (Nat.le_trans S1.out hb.size); obtain ⟨p0, p1, p2⟩ := gridAt_cells P2.out; obtain ⟨g0, g1, g2⟩ := gridAt_cells G2.out; clear hb ho hB2) | ((with_reducible refine (HK.out _ B2.out).mono ?_); rintro e w3 ⟨rfl, rfl⟩) | ((with_reducible refine (holds_any R C R2 C2 y0 x0 _ (by omega) (by omega) (by omega) (by omega)).mono ?_); rw [H.out]; rintro e w4 ⟨rfl, hb⟩; have B4 := hide (B2.out.trans (hb.mono B2.out.size)); have O4 := hide (ownMat_below O2.out hb); have P4 := hide (gridAt_below P2.out hb); have G4 := hide (gridAt_below G2.out hb); have Q4 := hide (out_below Q2.out hb); have S4 := hide (Nat.le_trans S2.out hb.size); clear p0 p1 p2 g0 g1 g2; obtain ⟨p0, p1, p2⟩ := gridAt_cells P4.out; obtain ⟨g0, g1, g2⟩ := gridAt_cells G4.out; clear hb) | ((with_reducible refine (add_any _ _ R C R2 C2 y0 x0 F G 1 w.heap.size w1.heap.size w4 O4.out Q4.out S4.out hy hx (by omega) (by omega) (by omega) (by omega)).mono ?_); rintro e w5 ⟨rfl, ho, hw⟩; have O5 := hide ho; have P5 := hide (gridAt_within P4.out hw (.inr (Nat.le_refl _))); have B5 := hide (B4.out.trans (below_within hw (Nat.le_refl _) B4.out.size)); have I5 := hide (implImageOk_any _ _ w5 (inMat_own ho)); have S5 := hide (Nat.le_trans S4.out hw.size); clear p0 p1 p2 g0 g1 g2 ho hw O4 P4 G4 Q4; obtain ⟨p0, p1, p2⟩ := gridAt_cells P5.out) | ((with_reducible refine I5.out.mono ?_); rw [HBB.out]; rintro e w6 ⟨rfl, rfl⟩))
    go_ret2
    exact ⟨_, rfl, ownMat_mono O5.out (Nat.le_refl _) S5.out, B5.out⟩
theorem implAddGhost_any (v vg : Value) (m g : List (List Int)) (y x : Int) (w : World) (hin : InMat w v m) (hg : InMat w vg g) :
    Calls Try.prog 40 #[v, vg, .int .i64 y, .int .i64 x] w (MatRes2 (aghM m g y x) (aghB m g y x) w) := by
  cases h1 : okB m with
  | false =>
    have e : aghB m g y x = false := by rw [aghB, h1]; rfl
    rw [aghM, e]
    exact implAgh_no v vg m g y x w hin hg h1
  | true =>
    obtain ⟨hm, hR, hC⟩ := gridB_mk (okB_grid h1)
    have hin1 : InMat w v (mkM m.length (widthM m) (elM m)) := by rw [← hm]; exact hin
    have hI : Img m.length (widthM m) (elM m) := okB_elM h1
    cases h2 : gridB g with
    | false =>
      have e : aghB m g y x = false := by rw [aghB, h1, h2]; rfl
      rw [aghM, e]
      exact implAgh_grid v vg g _ _ _ y x w hin1 hI hg h2
    | true =>
      obtain ⟨hgm, hR2, hC2⟩ := gridB_mk h2
      have hg1 : InMat w vg (mkM g.length (widthM g) (elM g)) := by rw [← hgm]; exact hg
      cases h3 : holdsB m.length (widthM m) g.length (widthM g) y x with
      | false =>
        have e : aghB m g y x = false := by rw [aghB, h1, h2, h3]; rfl
        rw [aghM, e]
        exact implAgh_out v vg _ _ _ _ _ _ y x w hin1 hI hg1 hR2 hC2 h3
      | true =>
        have e : aghB m g y x = okB (aghS m g y x) := by rw [aghB, h1, h2, h3]; rfl
        rw [aghM, e]
        simp only [holdsB, Bool.and_eq_true, decide_eq_true_eq] at h3
        have hy : ((y.toNat : Nat) : Int) = y := by omega
        have hx : ((x.toNat : Nat) : Int) = x := by omega
        have := implAgh_in v vg _ _ _ _ y.toNat x.toNat _ _ _ w hin1 hI hg1 hR2 hC2 (by omega) (by omega) rfl
        rw [hy, hx] at this
        exact this
end Go.Proofs.Ytiajdmoppgpgnaa
