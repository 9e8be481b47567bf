/-
  Texts of this claim, one behind the other: RowFn, GridOf, GridY, IdxI, ElOk, ShSl, Lists, Arr2, Arr3.
-/
import Derived.Test.YtjnnoabaepmcnaaPackG
import Derived.Test.YtjnnoabaepmcnaaPackC
import Derived.Laws.IdiomCopy
import Derived.Lib.SliceRun
import Derived.Shelf.Abstract
import Derived.Deep.LoopGhost
import Derived.Laws.CopyOwn
import Derived.Test.YtjnnoabaepmcnaaPackD
import Derived.Test.YtjnnoabaepmcnaaPackE
import Derived.Shelf.Slices.Clone
import Derived.Ground.Names2Prog
import Derived.Test.YtjnnoabaepmcnaaProg
/-
  slices.IndexFunc, ContainsFunc, DeleteFunc over rows.
-/
namespace Go.Proofs.Ytjnnoabaepmcnaa
open Go.RowKit Go.Shelf

/-- What the function value answers of a row that meets ok, in whatever world has grown out of W. -/
def RowPred (g : Nat) (cb : Array Value) (ok : List Int → Prop) (p : List Int → Bool) (W : World) : Prop :=
  ∀ (r : List Int) (u : Value) (w : World), ok r → Below W.heap.size W w → InRow w u r → Calls Try.prog g (#[u] ++ cb) w fun e w' => e = .returned (.bool (p r)) ∧ Below w.heap.size w w'
theorem rowPred_mono {g : Nat} {cb : Array Value} {ok : List Int → Prop} {p : List Int → Bool} {W W' : World} (h : RowPred g cb ok p W) (hb : Below W.heap.size W W') : RowPred g cb ok p W' :=
  fun r u w ho hw hr => h r u w ho (hb.trans (hw.mono hb.size)) hr
/-- The place of the first row at which p holds, or -1. -/
def idxP (p : List Int → Bool) (m : List (List Int)) : Int := if m.findIdx p < m.length then (m.findIdx p : Nat) else -1
theorem idxP_hit {p : List Int → Bool} {m : List (List Int)} {k : Nat} (hk : k < m.length) (h : p m[k] = true) (ha : ∀ t, (ht : t < m.length) → t < k → p m[t] = false) : idxP p m = k := by
  have : m.findIdx p = k := (List.findIdx_eq hk).2 ⟨h, fun j hj => ha j (by omega) hj⟩
  rw [idxP, this, if_pos hk]
theorem idxP_miss {p : List Int → Bool} {m : List (List Int)} (ha : ∀ t, (ht : t < m.length) → p m[t] = false) : idxP p m = -1 := by
  rw [idxP, if_neg]
  intro h
  have := List.findIdx_getElem (w := h)
  rw [ha _ h] at this; cases this
theorem idxP_any (p : List Int → Bool) (m : List (List Int)) : decide (0 ≤ idxP p m) = m.any p := by
  cases h : m.any p with
  | true =>
    rw [List.any_eq_true] at h
    obtain ⟨x, hx, hp⟩ := h
    have := List.findIdx_lt_length_of_exists ⟨x, hx, hp⟩
    rw [idxP, if_pos this]; simp
  | false =>
    rw [List.any_eq_false] at h
    rw [idxP_miss fun t ht => by simpa using h _ (List.getElem_mem ht)]; rfl
set_option maxHeartbeats 1000000 in
theorem idxRows_any (v : Value) (m : List (List Int)) (g : Nat) (cb : Array Value) (ok : List Int → Prop) (p : List Int → Bool) (w : World) (eg : ∀ args w, (callFunc g args).run Try.prog w = .ok (.enter g args) w) (hin : InMat w v m) (hok : ∀ r ∈ m, ok r) (hp : RowPred g cb ok p w) :
    Calls Try.prog 78 #[v, .func (.func g) #[] cb] w fun e w' => e = .returned (.int .i64 (idxP p m)) ∧ Below w.heap.size w w' := by
  obtain ⟨a, c, rfl, hm, hpl⟩ := hin
  unfold maxLen at hm
  have HP := hide hp; have HOK := hide hok
  clear hp hok
  by_cases h0 : m.length = 0
  · have hr : m = [] := List.eq_nil_of_length_eq_zero h0
    subst hr
    clear hpl h0 hm
    go_enter Try.func78, Try.ntmps78
    go_wp2
    go_loop [8] (fun i => i = .int .i64 0) (fun _ => 0)
    case atStart => rfl
    case round =>
      obtain rfl := hrel
      go_wp2
      go_ret
      exact ⟨rfl, Below.refl _ _⟩
  · obtain ⟨b, o, rfl, hg, hc⟩ := hpl.resolve_left h0
    have HC := hide hc; have HG := hide hg
    obtain ⟨n, hn⟩ : ∃ n, n = m.length := ⟨_, rfl⟩
    have HN := hide hn
    rw [← hn] at hm ⊢
    clear hpl hc h0 hn hg
    go_enter Try.func78, Try.ntmps78
    go_wp2
    go_loopw [8] (fun i w' => ∃ k : Nat, k ≤ n ∧ i = .int .i64 k ∧ (∀ t, (h : t < m.length) → t < k → p m[t] = false) ∧ Below w.heap.size w w') (fun i _ => n - (intOf i).toNat)
    case atStart => exact ⟨0, Nat.zero_le _, rfl, fun t _ h => absurd h (Nat.not_lt_zero _), Below.refl _ _⟩
    case round =>
      obtain ⟨k, hk, rfl, hall, hb⟩ := hrel
      have HA := hide hall; have HB := hide hb
      clear hall hb
      by_cases hlt : k < n
      · have hk' : k < m.length := by rw [← HN.out]; exact hlt
        obtain ⟨u, hu, hru⟩ := HC.out k hk'
        have hx := below_cell HB.out HG.out hu
        have HCALL := hide (HP.out m[k] u wr (HOK.out _ (List.getElem_mem hk')) HB.out (inRow_below hru HB.out))
        have HHIT := hide (fun h => idxP_hit (p := p) hk' h HA.out)
        have HST : Hid (p m[k] = false → ∀ t, (h : t < m.length) → t < k + 1 → p m[t] = false) := hide fun h t h1 ht => by
          by_cases e : t = k
          · subst e; exact h
          · exact HA.out t h1 (by omega)
        clear hu hru
        obtain ⟨q, hq⟩ : ∃ q, q = p m[k] := ⟨_, rfl⟩
        rw [← hq] at HCALL HHIT HST
        clear hq
        cases q with
        | true =>
          have HF := hide (HHIT.out rfl); clear HHIT HST
          go_wp2_with (go_at_fn g; refine HCALL.out.mono ?_; rintro e w9 ⟨rfl, hb9⟩; have HB9 := hide (HB.out.trans (hb9.mono HB.out.size)); clear hb9)
          go_ret
          exact ⟨by rw [HF.out]; rfl, HB9.out⟩
        | false =>
          have HS2 := hide (HST.out rfl); clear HST HHIT
          go_wp2_with (go_at_fn g; refine HCALL.out.mono ?_; rintro e w9 ⟨rfl, hb9⟩; have HB9 := hide (HB.out.trans (hb9.mono HB.out.size)); clear hb9)
          go_roundw
          case rel => exact ⟨k + 1, by omega, by go_num, HS2.out, HB9.out⟩
          case measure => simp [intOf]; omega
      · have HY := hide (idxP_miss (p := p) fun t h => HA.out t h (by have := HN.out; omega))
        go_wp2
        go_ret
        exact ⟨by rw [HY.out]; rfl, HB.out⟩
set_option maxHeartbeats 400000 in
theorem containsRows_any (v : Value) (m : List (List Int)) (g : Nat) (cb : Array Value) (ok : List Int → Prop) (p : List Int → Bool) (w : World) (eg : ∀ args w, (callFunc g args).run Try.prog w = .ok (.enter g args) w) (hin : InMat w v m) (hok : ∀ r ∈ m, ok r) (hp : RowPred g cb ok p w) :
    Calls Try.prog 51 #[v, .func (.func g) #[] cb] w fun e w' => e = .returned (.bool (m.any p)) ∧ Below w.heap.size w w' := by
  have HI := hide (idxRows_any v m g cb ok p w eg hin hok hp)
  have HY := hide (idxP_any p m)
  have hlo : -1 ≤ idxP p m ∧ idxP p m ≤ maxLen := by
    obtain ⟨a, c, -, hm, -⟩ := hin
    unfold idxP
    by_cases h : m.findIdx p < m.length
    · rw [if_pos h]; omega
    · rw [if_neg h]; exact ⟨by omega, by unfold maxLen; omega⟩
  unfold maxLen at hlo
  obtain ⟨q, hq⟩ : ∃ q, q = idxP p m := ⟨_, rfl⟩
  rw [← hq] at HI HY hlo
  rw [← HY.out]
  obtain ⟨hlo, hhi⟩ := hlo
  clear hin hok hp hq eg HY
  go_enter Try.func51, Try.ntmps51
  go_wp2_with (go_at_call 78; refine HI.out.mono ?_; rintro e w9 ⟨rfl, hb9⟩; have HB9 := hide hb9; clear hb9)
  go_ret
  exact ⟨rfl, HB9.out⟩
end Go.Proofs.Ytjnnoabaepmcnaa
/-
  copy into a row of the call's own; gridOf.
-/
namespace Go.Proofs.Ytjnnoabaepmcnaa
open Go.RowKit
set_option maxRecDepth 100000

/-- copy of a row over a row of the same length that the call owns. -/
theorem wpList_copyRow {ops : Array Oper} {rest : List Oper} {o : Oper} {a : Act} {Q : Exit → Act → World → Prop} {W : World} {base g n cap : Nat} {xs : List Value} {r : List Int} {sv : Value}
    (h : W.ownsRow base 3 1 (.slice (some ⟨g, 0, none⟩) n cap) n xs) (hr : InRow W sv r) (hn : r.length = n)
    (hgd : o.guard = none) (d s : Operand) (ho : o.op = .call { callee := .builtin .copy, args := #[d, s], argTypes := #[30, 30] }) (hd : a.eval d = .slice (some ⟨g, 0, none⟩) n cap) (hs : a.eval s = sv)
    (hK : ∀ w', w'.ownsRow base 3 1 (.slice (some ⟨g, 0, none⟩) n cap) n (ints r) → W.grownBy w' (some g) → wpList Try.prog ops Q rest (a.put o.dst (goInt n)) w') : wpList Try.prog ops Q (o :: rest) a W := by
  obtain ⟨sa, sc, rfl, -, hp⟩ := hr
  rcases h.2 with ⟨e, _⟩ | ⟨g', cap', cur, e, hbg, hg, hnc, hcm, hcs, htk⟩
  · cases e
  cases e
  by_cases h0 : n = 0
  · have hr0 : r = [] := List.eq_nil_of_length_eq_zero (by omega)
    subst hr0
    subst h0
    refine wpList_copy_nothing hgd d s _ _ ho 3 Try.underlying30 (by kernel_rfl) (some ⟨g, 0, none⟩) sa 0 cap 0 sc hd hs (by decide) ?_
    refine hK W ⟨by simp [ints], .inr ⟨g, cap, cur, rfl, hbg, hg, hnc, hcm, hcs, by simp [ints]⟩⟩ ⟨rfl, rfl, rfl, Nat.le_refl _, fun _ _ _ => rfl⟩
  · obtain ⟨gs, os, rfl, hgs, hcell⟩ := hp.resolve_left (by omega)
    refine wpList_copy_own hgd d s _ _ ho 3 Try.underlying30 (by kernel_rfl) g 0 n cap ⟨gs, os, none⟩ r.length sc hd hs cur _ hg (ints r) (by rw [ints_len, hn]; simp) (fun j v hj => ?_) (by rw [ints_len]; omega) (fun v hv => ?_) ?_
    · have hj' : j < r.length := by rw [← ints_len r]; exact (List.getElem?_eq_some_iff.1 hj).1
      rw [ints_at r j hj'] at hj
      cases hj
      rw [addr_add]; exact hcell j hj'
    · simp only [ints, List.mem_map] at hv
      obtain ⟨z, -, rfl⟩ := hv
      rfl
    · rw [ints_len, hn]
      refine hK _ ⟨by rw [ints_len, hn]; omega, .inr ⟨g, cap, _, rfl, hbg, setRow_heap W g _ _ _ _ hg, hnc, hcm, ?_, ?_⟩⟩ ⟨rfl, rfl, rfl, by simp [World.setRow], fun k hk hr => setRow_other W g k _ (fun e => hr (by rw [e]))⟩
      · have := ints_len r
        simp; omega
      · have := ints_len r
        simp only [List.take_zero, List.nil_append, Nat.mul_one]
        rw [List.take_append_of_le_length (by omega), List.take_of_length_le (by omega)]

/-- A grid of the size of an image. -/
def gridB (m : List (List Int)) : Bool := decide (m.length ≠ 0) && sizeOk m.length (widthM m) && !m.any fun r => r.length != widthM m
theorem widthM_at {m : List (List Int)} (h : 0 < m.length) : widthM m = m[0].length := by
  cases m with
  | nil => cases h
  | cons x r => rfl
/-- Any grid as numbers by places. -/
def elM (m : List (List Int)) (y x : Nat) : Int := (m.getD y []).getD x 0
theorem gridB_mk {m : List (List Int)} (h : gridB m = true) : m = mkM m.length (widthM m) (elM m) ∧ (1 ≤ m.length ∧ m.length ≤ 5) ∧ (1 ≤ widthM m ∧ widthM m ≤ 5) := by
  unfold gridB at h
  simp only [Bool.and_eq_true, Bool.not_eq_true', decide_eq_true_eq] at h
  obtain ⟨⟨h0, h1⟩, h2⟩ := h
  have hs := sizeOk_yes h1
  refine ⟨?_, by omega, by omega⟩
  have hrow : ∀ i, (hi : i < m.length) → m[i].length = widthM m := fun i hi => by
    rw [List.any_eq_false] at h2
    have := h2 m[i] (List.getElem_mem hi)
    simpa using this
  apply List.ext_getElem
  · rw [mkM_len]
  · intro i h1 h2
    rw [mkM_at]
    apply List.ext_getElem
    · rw [rowF_len, hrow i h1]
    · intro j h3 h4
      rw [rowF_at, elM]
      simp [h1, h3]
set_option maxHeartbeats 400000 in
theorem widthNe_any (C : Nat) (g : Nat) (R : Int) (W : World) (hs : SizeAt W g R C) : RowPred 68 #[.pointer (some ⟨g, 0, none⟩)] (fun _ => True) (fun r => r.length != C) W := by
  intro r u w _ hb hr
  obtain ⟨a, c, rfl, -⟩ := hr
  obtain ⟨-, h1⟩ := sizeAt_cells (sizeAt_below hs hb)
  show Calls Try.prog _ #[.slice a r.length c, .pointer (some ⟨g, 0, none⟩)] w fun e w' => e = .returned (.bool (r.length != C)) ∧ Below w.heap.size w w'
  obtain ⟨n, hn⟩ : ∃ n, n = r.length := ⟨_, rfl⟩
  have HE : Hid ((n != C) = ((n : Int) != (C : Int))) := hide (by rw [Bool.eq_iff_iff]; simp; omega)
  rw [← hn, HE.out]
  clear hs hn HE
  go_enter Try.func68, Try.ntmps68
  go_wp2
  go_ret
  exact ⟨rfl, Below.refl _ _⟩

theorem gridRes_no {w w' : World} (h : GridAt w' w.heap.size 0 0 (.slice none 0 0)) : w'.cell? ⟨w.heap.size, 0, none⟩ = some (.int .i64 0) ∧ w'.cell? ⟨w.heap.size, 1, none⟩ = some (.int .i64 0) ∧ w'.cell? ⟨w.heap.size, 2, none⟩ = some (.slice none 0 0) := gridAt_cells h
def GridOfNo (w : World) (e : Ending) (w' : World) : Prop := e = .returned (.tuple #[gridV 0 0 (.slice none 0 0), .bool false]) ∧ Below w.heap.size w w'
set_option maxHeartbeats 2000000 in
theorem gridOf_no (v : Value) (m : List (List Int)) (w : World) (hin : InMat w v m) (h : gridB m = false) :
    Calls Try.prog 39 #[v] w (GridOfNo w) := by
  have HIN := hide hin
  obtain ⟨a, c, rfl, hm, hp⟩ := hin
  unfold maxLen at hm
  have HG0 : Hid (GridAt (w.alloc (.cells #[.int .i64 0, .int .i64 0, .slice none 0 0] 68)) w.heap.size 0 0 (.slice none 0 0)) := hide (heap_alloc_new w _)
  have HB0 := hide ((Below.refl w.heap.size w).alloc (Nat.le_refl _) (.cells #[.int .i64 0, .int .i64 0, .slice none 0 0] 68))
  by_cases h0 : m.length = 0
  · rw [h0] at hm ⊢
    clear hp h HIN
    go_enter Try.func39, Try.ntmps39
    go_wp2_with ((with_reducible refine wpList_storeGr HG0.out 0 0 (.slice none 0 0) rfl rfl _ _ rfl rfl rfl ?_); intro w3 hs hg3 hz; have HS3 := hide hs; have HB3 := hide (HB0.out.trans (grown_below hg3 (fun q hq => by cases hq; omega) HB0.out.size)); clear hs hg3 hz)
    obtain ⟨q0, q1, q2⟩ := gridAt_cells HS3.out
    refine bodyPost_ret (v := .tuple #[gridV 0 0 (.slice none 0 0), .bool false]) ?_ rfl ⟨rfl, HB3.out⟩
    simp [results, Try.results39, go_sem, q0, q1, q2, gridV]
  · obtain ⟨g, o, rfl, hg, hcell⟩ := hp.resolve_left h0
    obtain ⟨u, hx, hr⟩ := hcell 0 (by omega)
    obtain ⟨a1, c1, rfl, hm1, -⟩ := hr
    unfold maxLen at hm1
    rw [Nat.add_zero] at hx
    replace hx := below_cell HB0.out hg hx
    have hw0 := widthM_at (m := m) (by omega)
    rw [← hw0] at hx hm1
    have h0I : ((m.length : Int) == 0) = false := by simp [h0]
    have hpos : (0 : Int) < m.length := by omega
    obtain ⟨R, hR⟩ : ∃ R, R = m.length := ⟨_, rfl⟩
    obtain ⟨C, hC⟩ : ∃ C, C = widthM m := ⟨_, rfl⟩
    have HSZ1 : Hid (∀ w : World, SizeAt (w.alloc (.cells #[.int .i64 R, .int .i64 C] 66)) w.heap.size R C) := hide fun w => heap_alloc_new w _
    have HSZ2 : Hid (∀ w : World, Below w.heap.size w (w.alloc (.cells #[.int .i64 R, .int .i64 C] 66))) := hide fun w => (Below.refl _ _).alloc (Nat.le_refl _) _
    have HZ := hide (HSZ1.out (w.alloc (.cells #[.int .i64 0, .int .i64 0, .slice none 0 0] 68)))
    have HZB := hide (HSZ2.out (w.alloc (.cells #[.int .i64 0, .int .i64 0, .slice none 0 0] 68)))
    have HG1 := hide (gridAt_below HG0.out HZB.out)
    have HB1 := hide (HB0.out.trans (HZB.out.mono HB0.out.size))
    have HRC : Hid (gridB m = (sizeOk R C && !m.any fun r => r.length != C)) := hide (by rw [gridB, decide_eq_true h0, Bool.true_and, hR, hC])
    rw [← hR] at HIN hm h0I hpos ⊢
    rw [← hC] at hx hm1
    clear hp hcell hw0 hR hC h0
    cases hs : sizeOk R C with
    | false =>
      have HS := hide hs
      clear hs
      go_enter Try.func39, Try.ntmps39
      go_wp2_with (first | (with_reducible refine wpList_loadSz HZ.out rfl _ rfl rfl ?_) | ((with_reducible refine (sizeok_any R C _).mono ?_); rw [HS.out]; rintro e w1 ⟨rfl, hb⟩; have HG2 := hide (gridAt_below HG1.out hb); have HB2 := hide (HB1.out.trans (hb.mono HB1.out.size)); clear hb) | ((with_reducible refine wpList_storeGr HG2.out 0 0 (.slice none 0 0) rfl rfl _ _ rfl rfl rfl ?_); intro w3 hs hg3 hz; have HS3 := hide hs; have HB3 := hide (HB2.out.trans (grown_below hg3 (fun q hq => by cases hq; omega) HB2.out.size)); clear hs hg3 hz))
      obtain ⟨q0, q1, q2⟩ := gridAt_cells HS3.out
      refine bodyPost_ret (v := .tuple #[gridV 0 0 (.slice none 0 0), .bool false]) ?_ rfl ⟨rfl, HB3.out⟩
      simp [results, Try.results39, go_sem, q0, q1, q2, gridV]
    | true =>
      have HS := hide hs
      have HANY : Hid ((m.any fun r => r.length != C) = true) := hide (by
        have e := HRC.out
        rw [h, hs, Bool.true_and] at e
        cases hh : (m.any fun r => r.length != C) with
        | true => rfl
        | false => rw [hh] at e; cases e)
      clear hs h
      go_enter Try.func39, Try.ntmps39
      go_wp2_with (first | (with_reducible refine wpList_loadSz HZ.out rfl _ rfl rfl ?_) | ((with_reducible refine (sizeok_any R C _).mono ?_); rw [HS.out]; rintro e w1 ⟨rfl, hb⟩; have HZ2 := hide (sizeAt_below HZ.out hb); have HG2 := hide (gridAt_below HG1.out hb); have HB2 := hide (HB1.out.trans (hb.mono HB1.out.size)); clear hb) | ((with_reducible refine (containsRows_any _ m 68 #[.pointer (some ⟨w.heap.size + 1, 0, none⟩)] (fun _ => True) (fun r => r.length != C) _ (fun _ _ => rfl) (inMat_below HIN.out HB2.out) (fun _ _ => trivial) (widthNe_any C _ R _ (by have := HZ2.out; simpa using this))).mono ?_); rw [HANY.out]; rintro e w2 ⟨rfl, hb⟩; have HG3 := hide (gridAt_below HG2.out hb); have HB3 := hide (HB2.out.trans (hb.mono HB2.out.size)); clear hb) | ((with_reducible refine wpList_storeGr HG3.out 0 0 (.slice none 0 0) rfl rfl _ _ rfl rfl rfl ?_); intro w3 hs hg3 hz; have HS3 := hide hs; have HB4 := hide (HB3.out.trans (grown_below hg3 (fun q hq => by cases hq; omega) HB3.out.size)); clear hs hg3 hz))
      obtain ⟨q0, q1, q2⟩ := gridAt_cells HS3.out
      refine bodyPost_ret (v := .tuple #[gridV 0 0 (.slice none 0 0), .bool false]) ?_ rfl ⟨rfl, HB4.out⟩
      simp [results, Try.results39, go_sem, q0, q1, q2, gridV]
end Go.Proofs.Ytjnnoabaepmcnaa
/-
  gridOf at a grid of the size of an image: a copy of it.
-/
namespace Go.Proofs.Ytjnnoabaepmcnaa
open Go.RowKit
set_option maxRecDepth 100000

theorem anyRow_no {m : List (List Int)} {p : List Int → Bool} (h : ∀ r ∈ m, p r = false) : m.any p = false := by
  rw [List.any_eq_false]
  intro r hr
  simp [h r hr]
theorem mkM_row (R C : Nat) (f : Nat → Nat → Int) (y : Nat) (hy : y < R) : (mkM R C f)[y]? = some (rowF C (f y)) := by
  simp [mkM, hy]
/-- The first k rows copied. -/
def cpF (f : Nat → Nat → Int) (k y x : Nat) : Int := if y < k then f y x else 0
theorem cpF_set (R C : Nat) (f : Nat → Nat → Int) (k : Nat) : (mkM R C (cpF f k)).set k (rowF C (f k)) = mkM R C (cpF f (k + 1)) := by
  apply List.ext_getElem
  · simp [mkM_len]
  · intro i h1 h2
    rw [List.getElem_set, mkM_at]
    have hi : i < (mkM R C (cpF f k)).length := by simpa using h1
    by_cases e : k = i
    · subst e
      rw [if_pos rfl]
      rw [mkM_at]
      exact rowF_congr fun x _ => by simp [cpF]
    · rw [if_neg e, mkM_at]
      refine rowF_congr fun x _ => ?_
      unfold cpF
      by_cases h : i < k
      · rw [if_pos h, if_pos (by omega)]
      · rw [if_neg h, if_neg (by omega)]
def GridOfYes (R C : Nat) (f : Nat → Nat → Int) (w : World) (e : Ending) (w' : World) : Prop := ∃ u, e = .returned (.tuple #[gridV R C u, .bool true]) ∧ OwnMat w' w.heap.size w'.heap.size u (mkM R C f) ∧ Below w.heap.size w w'
set_option maxHeartbeats 4000000 in
theorem gridOf_yes (v : Value) (R C : Nat) (f : Nat → Nat → Int) (w : World) (hin : InMat w v (mkM R C f)) (hR : 1 ≤ R ∧ R ≤ 5) (hC : 1 ≤ C ∧ C ≤ 5) :
    Calls Try.prog 39 #[v] w (GridOfYes R C f w) := by
  have HIN := hide hin
  have HS : Hid (sizeOk R C = true) := hide (by rw [sizeOk, decide_eq_true (show (1 : Int) ≤ R ∧ (R : Int) ≤ 5 by omega), decide_eq_true (show (1 : Int) ≤ C ∧ (C : Int) ≤ 5 by omega)]; rfl)
  have HANY : Hid (((mkM R C f).any fun r => r.length != C) = false) := hide (anyRow_no fun r hr => by
    simp only [mkM, List.mem_map] at hr
    obtain ⟨y, -, rfl⟩ := hr
    rw [rowF_len]; simp)
  obtain ⟨g, o, cap, rfl, hg, hrow⟩ := inMat_img hin (by omega) (by omega)
  have HROW := hide hrow
  obtain ⟨g', o', c', hx, -, -⟩ := hrow 0 (by omega)
  rw [Nat.add_zero] at hx
  have HG0 : Hid (GridAt (w.alloc (.cells #[.int .i64 0, .int .i64 0, .slice none 0 0] 68)) w.heap.size 0 0 (.slice none 0 0)) := hide (heap_alloc_new w _)
  have HB0 := hide ((Below.refl w.heap.size w).alloc (Nat.le_refl _) (.cells #[.int .i64 0, .int .i64 0, .slice none 0 0] 68))
  replace hx := below_cell HB0.out hg hx
  have h0I : ((R : Int) == 0) = false := by simp; omega
  have hpos : (0 : Int) < R := by omega
  have HSZ1 : Hid (∀ w : World, SizeAt (w.alloc (.cells #[.int .i64 R, .int .i64 C] 66)) w.heap.size R C) := hide fun w => heap_alloc_new w _
  have HSZ2 : Hid (∀ w : World, Below w.heap.size w (w.alloc (.cells #[.int .i64 R, .int .i64 C] 66))) := hide fun w => (Below.refl _ _).alloc (Nat.le_refl _) _
  have HZ := hide (HSZ1.out (w.alloc (.cells #[.int .i64 0, .int .i64 0, .slice none 0 0] 68)))
  have HZB := hide (HSZ2.out (w.alloc (.cells #[.int .i64 0, .int .i64 0, .slice none 0 0] 68)))
  have HG1 := hide (gridAt_below HG0.out HZB.out)
  have HB1 := hide (HB0.out.trans (HZB.out.mono HB0.out.size))
  have HGN : Hid (∀ (w : World) (a : Option Addr) (n c : Nat), GridAt (w.alloc (.cells #[.int .i64 R, .int .i64 C, .slice a n c] 68)) w.heap.size R C (.slice a n c)) := hide fun w _ _ _ => heap_alloc_new w _
  have HGB : Hid (∀ (w : World) (a : Option Addr) (n c : Nat), Below w.heap.size w (w.alloc (.cells #[.int .i64 R, .int .i64 C, .slice a n c] 68))) := hide fun w _ _ _ => (Below.refl _ _).alloc (Nat.le_refl _) _
  obtain ⟨r1, r2⟩ := hR
  obtain ⟨c1, c2⟩ := hC
  clear hin hrow
  go_enter Try.func39, Try.ntmps39
  go_wp2_with (first | (with_reducible refine wpList_loadSz HZ.out rfl _ rfl rfl ?_) | ((with_reducible refine (sizeok_any R C _).mono ?_); rw [HS.out]; rintro e w1 ⟨rfl, hb⟩; have HZ2 := hide (sizeAt_below HZ.out hb); have HG2 := hide (gridAt_below HG1.out hb); have HB2 := hide (HB1.out.trans (hb.mono HB1.out.size)); clear hb) | ((with_reducible refine (containsRows_any _ (mkM R C f) 68 #[.pointer (some ⟨w.heap.size + 1, 0, none⟩)] (fun _ => True) (fun r => r.length != C) _ (fun _ _ => rfl) (inMat_below HIN.out HB2.out) (fun _ _ => trivial) (widthNe_any C _ R _ (by have := HZ2.out; simpa using this))).mono ?_); rw [HANY.out]; rintro e w2 ⟨rfl, hb⟩; have HZ3 := hide (sizeAt_below HZ2.out hb); have HG3 := hide (gridAt_below HG2.out hb); have HB3 := hide (HB2.out.trans (hb.mono HB2.out.size)); have hs3 := HB3.out.size; clear hb) | (with_reducible refine wpList_loadSz (by have := HZ3.out; simpa using this) rfl _ rfl rfl ?_) | ((with_reducible refine (zeroGrid_any R C _ (by omega) (by omega)).mono ?_); rintro e w4 ⟨x, rfl, ho, hb⟩; obtain ⟨xa, xn, xc, rfl⟩ := ownMat_slice ho; dsimp only [gridV]; have HO4 := hide ho; have HG4 := hide (gridAt_below HG3.out hb); have HB4 := hide (HB3.out.trans (hb.mono HB3.out.size)); have hs4 := hb.size; clear ho hb))
  obtain ⟨vs, hvs⟩ := HO4.out
  have hxn : xn = R := by
    have := hvs.1
    rcases this.2 with ⟨e, h0⟩ | ⟨g', cap', cur, e, _⟩
    · rw [mkM_len] at h0; omega
    · cases e; rw [mkM_len]
  obtain ⟨gx, rfl⟩ : ∃ gx, xa = some ⟨gx, 0, none⟩ := by
    rcases hvs.1.2 with ⟨e, h0⟩ | ⟨g', cap', cur, e, _⟩
    · rw [mkM_len] at h0; omega
    · cases e; exact ⟨_, rfl⟩
  subst hxn
  clear hvs vs
  have HN1 := hide (HGN.out w4 (some ⟨gx, 0, none⟩) xn xc)
  have HN2 := hide (HGB.out w4 (some ⟨gx, 0, none⟩) xn xc)
  have HO5 := hide (ownMat_below HO4.out HN2.out)
  have HG5 := hide (gridAt_below HG4.out HN2.out)
  have HB5 := hide (HB4.out.trans (HN2.out.mono HB4.out.size))
  have hwlt : w.heap.size < w2.heap.size := by have := gridAt_lt HG3.out; omega
  go_loopw [32] (fun i w' => ∃ k : Nat, k ≤ xn ∧ i = .int .i64 k ∧ OwnMat w' w2.heap.size w4.heap.size (.slice (some ⟨gx, 0, none⟩) xn xc) (mkM xn C (cpF f k)) ∧ GridAt w' w4.heap.size xn C (.slice (some ⟨gx, 0, none⟩) xn xc) ∧ GridAt w' w.heap.size 0 0 (.slice none 0 0) ∧ Below w.heap.size w w') (fun i _ => xn - (intOf i).toNat)
  case atStart =>
    refine ⟨0, Nat.zero_le _, rfl, ?_, HN1.out, HG5.out, HB5.out⟩
    have e : mkM xn C (cpF f 0) = mkM xn C fun _ _ => 0 := mkM_congr fun y x _ _ => by simp [cpF]
    rw [e]; exact HO5.out
  case round =>
    clear HO4 HO5 HN1 HG5 HB5
    obtain ⟨k, hk, rfl, ho, hgp, hg0, hb⟩ := hrel
    have HO := hide ho; have HGP := hide hgp; have HGZ := hide hg0; have HB := hide hb
    obtain ⟨p0, p1, p2⟩ := gridAt_cells hgp
    clear ho hgp hg0 hb
    by_cases hlt : k < xn
    · have hltI : (k : Int) < xn := by omega
      obtain ⟨gs, os, cs, hcr, hgs, hcell⟩ := HROW.out k hlt
      have hcr := below_cell HB.out hg hcr
      have HSRC : Hid (InRow wr (.slice (some ⟨gs, os, none⟩) C cs) (rowF C (f k))) := hide (by
        obtain ⟨a, c, he, -, hp⟩ := HIN.out
        simp only [Value.slice.injEq] at he
        obtain ⟨rfl, -, rfl⟩ := he
        obtain ⟨g1, o1, he, hg1, hc1⟩ := hp.resolve_left (by rw [mkM_len]; omega)
        cases he
        obtain ⟨u, hu, hr⟩ := hc1 k (by rw [mkM_len]; exact hlt)
        have h2 := below_cell HB.out hg hu
        rw [hcr] at h2
        cases h2
        rw [mkM_at] at hr
        exact inRow_below hr HB.out)
      have hkl : k < (mkM xn C (cpF f k)).length := by rw [mkM_len]; exact hlt
      obtain ⟨u, hcu, hfz, hur, huh, hset⟩ := ownMat_row HO.out k hkl
      rw [mkM_at, rowF_len] at hur hset
      obtain ⟨gd, cd, rfl, -⟩ := own_some hur (by omega)
      have HUR := hide hur; have HUH := hide huh; have HSET := hide hset
      have HST := hide (cpF_set xn C f k)
      clear hcell hur huh hset hkl
      go_wp2_with ((with_reducible refine wpList_copyRow (n := C) (r := rowF C (f k)) HUR.out HSRC.out (rowF_len _ _) rfl _ _ rfl rfl rfl ?_); intro w5 ho5 hg5; have HO5 := hide ho5; have HG5 := hide hg5; clear ho5 hg5)
      go_roundw
      case rel =>
        have hlo := (HUR.out.lt gd rfl)
        have hhi := HUH.out gd rfl
        have h1 := HSET.out _ (rowF C (f k)) HO5.out (rowF_len _ _) HG5.out
        rw [HST.out] at h1
        exact ⟨k + 1, by omega, by go_num, h1, gridAt_grown HGP.out HG5.out (by intro e; cases e; omega), gridAt_grown HGZ.out HG5.out (by intro e; cases e; omega), HB.out.trans (grown_below HG5.out (fun q hq => by cases hq; omega) HB.out.size)⟩
      case measure => simp [intOf]; omega
    · obtain rfl : k = xn := by omega
      have HE : Hid (mkM k C (cpF f k) = mkM k C f) := hide (mkM_congr fun y x hy _ => by simp [cpF, hy])
      have hw4 := gridAt_lt HGP.out
      go_wp2_with (first | (with_reducible refine wpList_loadGr HGP.out rfl _ rfl rfl ?_) | ((with_reducible refine wpList_storeGr HGZ.out k C (.slice (some ⟨gx, 0, none⟩) k xc) rfl rfl _ _ rfl rfl rfl ?_); intro w3 hs hg3 hz; have HS3 := hide hs; have HG3' := hide hg3; have hz3 := hz; have HB3' := hide (HB.out.trans (grown_below hg3 (fun q hq => by cases hq; omega) HB.out.size)); clear hs hg3 hz))
      obtain ⟨q0, q1, q2⟩ := gridAt_cells HS3.out
      have HOF := hide (ownMat_mono (lo' := w.heap.size) (hi' := w3.heap.size) (ownMat_within (lo' := w.heap.size) (hi' := w.heap.size + 1) HO.out (within_grown HG3'.out (fun q e => by cases e; omega)) (.inr (by omega))) (by omega) (by omega))
      refine bodyPost_ret (v := .tuple #[gridV k C (.slice (some ⟨gx, 0, none⟩) k xc), .bool true]) ?_ rfl ⟨_, rfl, by rw [← HE.out]; exact HOF.out, HB3'.out⟩
      simp [results, Try.results39, go_sem, q0, q1, q2, gridV]
end Go.Proofs.Ytjnnoabaepmcnaa
/-
  slices.IndexFunc and ContainsFunc over integers, at a predicate that reads memory; numbersWithin.
-/
namespace Go.Proofs.Ytjnnoabaepmcnaa
open Go.RowKit Go.Shelf

/-- What a function value answers of an integer, in one world, changing nothing. -/
def IntPredAt (g : Nat) (cb : Array Value) (p : Int → Bool) (w : World) : Prop := ∀ (x : Int), Calls Try.prog g (#[.int .i64 x] ++ cb) w fun e w' => e = .returned (.bool (p x)) ∧ w = w'
set_option maxHeartbeats 1000000 in
theorem idxIntsAt_any (v : Value) (r : List Int) (g : Nat) (cb : Array Value) (p : Int → Bool) (w : World) (eg : ∀ args w, (callFunc g args).run Try.prog w = .ok (.enter g args) w) (hin : InRow w v r) (hp : IntPredAt g cb p w) :
    Calls Try.prog 84 #[v, .func (.func g) #[] cb] w (IdxRes (r.any p) w) := by
  have HP := hide hp
  clear hp
  obtain ⟨a, c, rfl, hm, hp⟩ := hin
  unfold maxLen at hm
  by_cases h0 : r.length = 0
  · have hr : r = [] := List.eq_nil_of_length_eq_zero h0
    subst hr
    clear hp h0 hm
    go_enter Try.func84, Try.ntmps84
    go_wp2
    go_loop [8] (fun i => i = .int .i64 0) (fun _ => 0)
    case atStart => rfl
    case round =>
      obtain rfl := hrel
      go_wp2
      go_ret
      exact ⟨-1, rfl, by omega, rfl, rfl⟩
  · obtain ⟨gr, o, rfl, hg, hc⟩ := hp.resolve_left h0
    have HC := hide hc
    obtain ⟨n, hn⟩ : ∃ n, n = r.length := ⟨_, rfl⟩
    have HN := hide hn
    rw [← hn] at hm ⊢
    clear hp hc h0 hn
    go_enter Try.func84, Try.ntmps84
    go_wp2
    go_loop [8] (fun i => ∃ k : Nat, k ≤ n ∧ i = .int .i64 k ∧ ∀ t, (h : t < r.length) → t < k → p r[t] = false) (fun i => n - (intOf i).toNat)
    case atStart => exact ⟨0, Nat.zero_le _, rfl, fun t _ h => absurd h (Nat.not_lt_zero _)⟩
    case round =>
      obtain ⟨k, hk, rfl, hall⟩ := hrel
      have HA := hide hall
      clear hall
      by_cases hlt : k < n
      · have hk' : k < r.length := by rw [← HN.out]; exact hlt
        have hx := HC.out k hk'
        have HNO := hide (fun h => any_yes (p := p) k hk' h)
        have HST : Hid (p r[k] = false → ∀ t, (h : t < r.length) → t < k + 1 → p r[t] = false) := hide fun h t h1 ht => by
          by_cases e : t = k
          · subst e; exact h
          · exact HA.out t h1 (by omega)
        obtain ⟨x, hxx⟩ : ∃ x, x = r[k] := ⟨_, rfl⟩
        rw [← hxx] at hx HNO HST
        clear hxx
        have HCALL := hide (HP.out x)
        obtain ⟨q, hq⟩ : ∃ q, q = p x := ⟨_, rfl⟩
        rw [← hq] at HCALL HNO HST
        clear hq
        cases q with
        | true =>
          have HF := hide (HNO.out rfl)
          clear HNO HST
          go_wp2_with (go_at_fn g; refine HCALL.out.mono ?_; rintro e w9 ⟨rfl, rfl⟩)
          go_ret
          exact ⟨k, rfl, by omega, by rw [HF.out]; simp, rfl⟩
        | false =>
          have HS2 := hide (HST.out rfl)
          clear HNO HST
          go_wp2_with (go_at_fn g; refine HCALL.out.mono ?_; rintro e w9 ⟨rfl, rfl⟩)
          go_round
          case rel => exact ⟨k + 1, by omega, by go_num, HS2.out⟩
          case measure => simp [intOf]; omega
      · have HY := hide (any_no (p := p) fun t h => HA.out t h (by have := HN.out; omega))
        go_wp2
        go_ret
        exact ⟨-1, rfl, by omega, by rw [HY.out]; rfl, rfl⟩
theorem containsIntsAt_any (v : Value) (r : List Int) (g : Nat) (cb : Array Value) (p : Int → Bool) (w : World) (eg : ∀ args w, (callFunc g args).run Try.prog w = .ok (.enter g args) w) (hin : InRow w v r) (hp : IntPredAt g cb p w) :
    Calls Try.prog 72 #[v, .func (.func g) #[] cb] w fun e w' => e = .returned (.bool (r.any p)) ∧ w = w' := by
  have HI := hide (idxIntsAt_any v r g cb p w eg hin hp)
  clear hin hp eg
  go_enter Try.func72, Try.ntmps72
  go_wp2_with fail
  refine HI.out.mono ?_
  rintro e w1 ⟨i, rfl, hi, hb, rfl⟩
  have HB := hide hb
  clear hb HI
  by_cases h : 0 ≤ i
  · go_wp2
    go_ret
    exact ⟨ret_bool (by rw [HB.out]; simp [h]), rfl⟩
  · go_wp2
    go_ret
    exact ⟨ret_bool (by rw [HB.out]), rfl⟩

def within (r : List Int) (most : Int) : Bool := r.all fun x => decide (-most ≤ x ∧ x ≤ most)
theorem within_any (r : List Int) (most : Int) : within r most = !r.any fun x => decide (x < -most) || decide (x > most) := by
  unfold within
  induction r with
  | nil => rfl
  | cons x r ih =>
    rw [List.all_cons, List.any_cons, ih, Bool.not_or]
    congr 1
    by_cases h1 : x < -most
    · rw [decide_eq_true h1, decide_eq_false (by omega)]; rfl
    · by_cases h2 : x > most
      · rw [decide_eq_false h1, decide_eq_true h2, decide_eq_false (by omega)]; rfl
      · rw [decide_eq_false h1, decide_eq_false h2, decide_eq_true (by omega)]; rfl
theorem within1_any (x most : Int) (q : Nat) (w : World) (hm : 0 ≤ most ∧ most ≤ 1000) (hq : w.cell? ⟨q, 0, none⟩ = some (.int .i64 most)) :
    Calls Try.prog 83 #[.int .i64 x, .pointer (some ⟨q, 0, none⟩)] w fun e w' => e = .returned (.bool (decide (x < -most) || decide (x > most))) ∧ w = w' := by
  obtain ⟨h1, h2⟩ := hm
  by_cases h : x < -most
  · go_enter Try.func83, Try.ntmps83
    go_wp2
    go_ret
    exact ⟨ret_bool (by simp [h]), rfl⟩
  · go_enter Try.func83, Try.ntmps83
    go_wp2
    go_ret
    exact ⟨ret_bool (by rw [show decide (x < -most) = false from decide_eq_false (by omega)]; rfl), rfl⟩
theorem numbersWithin_any (v : Value) (r : List Int) (most : Int) (w : World) (hm : 0 ≤ most ∧ most ≤ 1000) (hin : InRow w v r) :
    Calls Try.prog 71 #[v, .int .i64 most] w fun e w' => e = .returned (.bool (within r most)) ∧ Below w.heap.size w w' := by
  obtain ⟨w1, hw1⟩ : ∃ w1, w1 = w.alloc (.cells #[.int .i64 most] 3) := ⟨_, rfl⟩
  have B1 := hide (show Below w.heap.size w w1 by rw [hw1]; exact (Below.refl _ w).alloc (Nat.le_refl _) _)
  have hq : w1.cell? ⟨w.heap.size, 0, none⟩ = some (.int .i64 most) := by rw [hw1]; simp [World.cell?_alloc_new]
  have HC := hide (containsIntsAt_any v r 83 #[.pointer (some ⟨w.heap.size, 0, none⟩)] (fun x => decide (x < -most) || decide (x > most)) w1 (enters_of Try.func83 (by kernel_rfl) rfl) (inRow_below hin B1.out) (fun x => within1_any x most _ w1 hm hq))
  rw [within_any]
  obtain ⟨b, hb⟩ : ∃ b, b = r.any fun x => decide (x < -most) || decide (x > most) := ⟨_, rfl⟩
  rw [← hb] at HC ⊢
  obtain ⟨a, c, rfl, -, -⟩ := hin
  generalize r.length = n at *
  clear hb hm hq
  go_enter Try.func71, Try.ntmps71
  go_wp2_with fail
  rw [← hw1]
  clear hw1
  refine HC.out.mono ?_
  rintro e w2 ⟨rfl, rfl⟩
  go_wp2
  go_ret
  exact ⟨rfl, B1.out⟩
end Go.Proofs.Ytjnnoabaepmcnaa
/-
  A grid whose elements are small; a list of zeros; GridSums of the program.
-/
namespace Go.Proofs.Ytjnnoabaepmcnaa
open Go.RowKit
set_option maxRecDepth 100000

theorem notWithin_any (W : World) : RowPred 70 #[] (fun _ => True) (fun r => !within r 100) W := by
  intro r u w _ hb hr
  have HR := hide hr
  obtain ⟨a, c, rfl, -⟩ := hr
  show Calls Try.prog _ #[.slice a r.length c] w fun e w' => e = .returned (.bool (!within r 100)) ∧ Below w.heap.size w w'
  have HC := hide (numbersWithin_any (.slice a r.length c) r 100 w (by omega) HR.out)
  obtain ⟨b, hb⟩ : ∃ b, b = within r 100 := ⟨_, rfl⟩
  rw [← hb] at HC ⊢
  obtain ⟨n, hn⟩ : ∃ n, n = r.length := ⟨_, rfl⟩
  rw [← hn] at HC ⊢
  clear hb hn HR
  go_enter Try.func70, Try.ntmps70
  go_wp2_with ((with_reducible refine HC.out.mono ?_); rintro e w1 ⟨rfl, hb⟩; have HB := hide hb; clear hb)
  go_ret
  exact ⟨rfl, HB.out⟩
theorem not_any_within (m : List (List Int)) : (!m.any fun r => !within r 100) = m.all fun r => within r 100 := by
  induction m with
  | nil => rfl
  | cons x r ih => rw [List.any_cons, List.all_cons, ← ih]; cases within x 100 <;> simp
set_option maxHeartbeats 400000 in
theorem elementsOk_any (R C : Int) (v : Value) (m : List (List Int)) (w : World) (hin : InMat w v m) :
    Calls Try.prog 40 #[gridV R C v] w fun e w' => e = .returned (.bool (m.all fun r => within r 100)) ∧ Below w.heap.size w w' := by
  have HIN := hide hin
  obtain ⟨a, c, rfl, -⟩ := hin
  have hb := (Below.refl w.heap.size w).alloc (Nat.le_refl _) (.cells #[.int .i64 R, .int .i64 C, .slice a m.length c] 68)
  have HB := hide hb
  have HC := hide (containsRows_any _ m 70 #[] (fun _ => True) (fun r => !within r 100) _ (fun _ _ => rfl) (inMat_below HIN.out hb) (fun _ _ => trivial) (notWithin_any _))
  have HG : Hid (GridAt (w.alloc (.cells #[.int .i64 R, .int .i64 C, .slice a m.length c] 68)) w.heap.size R C (.slice a m.length c)) := hide (heap_alloc_new w _)
  obtain ⟨q0, q1, q2⟩ := gridAt_cells HG.out
  rw [← not_any_within]
  obtain ⟨b, hbb⟩ : ∃ b, b = m.any fun r => !within r 100 := ⟨_, rfl⟩
  rw [← hbb] at HC ⊢
  clear hbb hb HG
  obtain ⟨n, hn⟩ : ∃ n, n = m.length := ⟨_, rfl⟩
  rw [← hn] at HC HB q0 q1 q2 ⊢
  clear hn HIN
  unfold gridV
  go_enter Try.func40, Try.ntmps40
  go_wp2_with ((with_reducible refine HC.out.mono ?_); rintro e w1 ⟨rfl, hb⟩; have HB1 := hide (HB.out.trans (hb.mono HB.out.size)); clear hb)
  go_ret
  exact ⟨rfl, HB1.out⟩
set_option maxHeartbeats 400000 in
theorem isZero_any (v : Value) (r : List Int) (w : World) (hin : InRow w v r) :
    Calls Try.prog 53 #[v] w fun e w' => e = .returned (.bool (within r 0)) ∧ Below w.heap.size w w' := by
  have HC := hide (numbersWithin_any v r 0 w (by omega) hin)
  obtain ⟨a, c, rfl, -⟩ := hin
  obtain ⟨b, hb⟩ : ∃ b, b = within r 0 := ⟨_, rfl⟩
  rw [← hb] at HC ⊢
  obtain ⟨n, hn⟩ : ∃ n, n = r.length := ⟨_, rfl⟩
  rw [← hn] at HC ⊢
  clear hb hn
  go_enter Try.func53, Try.ntmps53
  go_wp2_with ((with_reducible refine HC.out.mono ?_); rintro e w1 ⟨rfl, hb⟩; have HB := hide hb; clear hb)
  go_ret
  exact ⟨rfl, HB.out⟩

/-- GridSums' own condition on a grid: the size of an image, small elements. -/
def gridOkB (m : List (List Int)) : Bool := gridB m && m.all fun r => within r 100
theorem gridOk_small {R C : Nat} {f : Nat → Nat → Int} (h : ((mkM R C f).all fun r => within r 100) = true) : Small R C f := fun y x hy hx => by
  rw [List.all_eq_true] at h
  have := h (rowF C (f y)) (List.mem_map.2 ⟨y, List.mem_range.2 hy, rfl⟩)
  unfold within at this
  rw [List.all_eq_true] at this
  have := this (f y x) (List.mem_map.2 ⟨x, List.mem_range.2 hx, rfl⟩)
  simpa using this
def gsL (m : List (List Int)) (dx dy : Int) : List Int := if (gridOkB m && dirOk dx dy) = true then lineRowE m.length (widthM m) (elM m) dx dy (countL m.length (widthM m) dx dy).toNat else []
/-- Integers of the call's own, nil where there are none. -/
def GsRes (r : List Int) (w : World) (e : Ending) (w' : World) : Prop := IntsRes r w e w' ∧ (r = [] → e = .returned (.slice none 0 0))
theorem countL_pos {R C : Nat} {dx dy : Int} (hn : Near dx dy) (hR : 1 ≤ R ∧ R ≤ 5) (hC : 1 ≤ C ∧ C ≤ 5) : 1 ≤ countL R C dx dy := by
  obtain ⟨p1, p2, -⟩ := lnum_range (rows := R) (cols := C) (y := (R : Int) - 1) (x := 0) hn (by omega) (by omega) (by omega) (by omega) (by omega) (by omega) (by omega) (by omega)
  unfold countL; omega
set_option maxHeartbeats 2000000 in
theorem implGridSums_no1 (v : Value) (m : List (List Int)) (dx dy : Int) (w : World) (hin : InMat w v m) (h : gridB m = false) :
    Calls Try.prog 14 #[v, .agg #[.int .i64 dx, .int .i64 dy]] w (GsRes [] w) := by
  have HB := hide ((Below.refl w.heap.size w).alloc (Nat.le_refl _) (.cells #[.int .i64 dx, .int .i64 dy] 29))
  have HC := hide (gridOf_no v m _ (inMat_below hin HB.out) h)
  have HGB : Hid (∀ w : World, Below w.heap.size w (w.alloc (.cells #[.int .i64 0, .int .i64 0, .slice none 0 0] 68))) := hide fun w => (Below.refl _ _).alloc (Nat.le_refl _) _
  clear hin h
  go_enter Try.func14, Try.ntmps14
  go_wp2_with ((with_reducible refine HC.out.mono ?_); rintro e w1 ⟨rfl, hb⟩; dsimp only [gridV]; have HB1 := hide (HB.out.trans (hb.mono HB.out.size)); have HB2 := hide (HB1.out.trans ((HGB.out w1).mono HB1.out.size)); clear hb)
  go_ret
  exact ⟨intsRes_nil HB2.out, fun _ => rfl⟩
set_option maxHeartbeats 4000000 in
theorem implGridSums_in (v : Value) (R C : Nat) (f : Nat → Nat → Int) (dx dy : Int) (w : World) (hin : InMat w v (mkM R C f)) (hR : 1 ≤ R ∧ R ≤ 5) (hC : 1 ≤ C ∧ C ≤ 5) :
    Calls Try.prog 14 #[v, .agg #[.int .i64 dx, .int .i64 dy]] w (GsRes (if (((mkM R C f).all fun r => within r 100) && dirOk dx dy) = true then lineRowE R C f dx dy (countL R C dx dy).toNat else []) w) := by
  have HB := hide ((Below.refl w.heap.size w).alloc (Nat.le_refl _) (.cells #[.int .i64 dx, .int .i64 dy] 29))
  have HC := hide (gridOf_yes v R C f _ (inMat_below hin HB.out) hR hC)
  have HGB : Hid (∀ (w : World) (a : Option Addr) (n c : Nat), Below w.heap.size w (w.alloc (.cells #[.int .i64 R, .int .i64 C, .slice a n c] 68)) ∧ GridAt (w.alloc (.cells #[.int .i64 R, .int .i64 C, .slice a n c] 68)) w.heap.size R C (.slice a n c)) := hide fun w _ _ _ => ⟨(Below.refl _ _).alloc (Nat.le_refl _) _, heap_alloc_new w _⟩
  have HD0 := hide (show DirAt (w.alloc (.cells #[.int .i64 dx, .int .i64 dy] 29)) w.heap.size dx dy from heap_alloc_new w _)
  have HR := hide hR; have HCC := hide hC
  cases he : (mkM R C f).all fun r => within r 100 with
  | false =>
    have HE := hide he
    rw [Bool.false_and, if_neg (by decide)]
    clear hin he hR hC
    go_enter Try.func14, Try.ntmps14
    go_wp2_with (first | ((with_reducible refine HC.out.mono ?_); rintro e w1 ⟨x, rfl, ho, hb⟩; obtain ⟨xa, xn, xc, rfl⟩ := ownMat_slice ho; dsimp only [gridV]; have HI := hide (inMat_below (inMat_own ho) (HGB.out w1 xa xn xc).1); have HG := hide (HGB.out w1 xa xn xc).2; have HB1 := hide (HB.out.trans (hb.mono HB.out.size)); have HB2 := hide (HB1.out.trans ((HGB.out w1 xa xn xc).1.mono HB1.out.size)); clear hb ho) | (with_reducible refine wpList_loadGr HG.out rfl _ rfl rfl ?_) | ((with_reducible refine (elementsOk_any R C _ _ _ HI.out).mono ?_); rw [HE.out]; rintro e w2 ⟨rfl, hb⟩; have HB3 := hide (HB2.out.trans (hb.mono HB2.out.size)); clear hb))
    go_ret
    exact ⟨intsRes_nil HB3.out, fun _ => rfl⟩
  | true =>
    have HE := hide he
    have HSM := hide (gridOk_small he)
    cases hd : dirOk dx dy with
    | false =>
      have HD := hide hd
      rw [Bool.true_and, if_neg (by decide)]
      clear hin he hR hC hd
      go_enter Try.func14, Try.ntmps14
      go_wp2_with (first | ((with_reducible refine HC.out.mono ?_); rintro e w1 ⟨x, rfl, ho, hb⟩; obtain ⟨xa, xn, xc, rfl⟩ := ownMat_slice ho; dsimp only [gridV]; have HI := hide (inMat_below (inMat_own ho) (HGB.out w1 xa xn xc).1); have HG := hide (HGB.out w1 xa xn xc).2; have HB1 := hide (HB.out.trans (hb.mono HB.out.size)); have HD2 := hide (dirAt_below (dirAt_below HD0.out hb) (HGB.out w1 xa xn xc).1); have HB2 := hide (HB1.out.trans ((HGB.out w1 xa xn xc).1.mono HB1.out.size)); clear hb ho) | (with_reducible refine wpList_loadGr HG.out rfl _ rfl rfl ?_) | ((with_reducible refine (elementsOk_any R C _ _ _ HI.out).mono ?_); rw [HE.out]; rintro e w2 ⟨rfl, hb⟩; have HD3 := hide (dirAt_below HD2.out hb); have dc0 : w2.cell? ⟨w.heap.size, 0, none⟩ = some (.int .i64 dx) := (drC_at HD3.out).1; have dc1 : w2.cell? ⟨w.heap.size, 1, none⟩ = some (.int .i64 dy) := (drC_at HD3.out).2; have HB3 := hide (HB2.out.trans (hb.mono HB2.out.size)); clear hb) | (with_reducible refine wpList_loadDir HD3.out rfl _ rfl rfl ?_) | ((with_reducible refine (implDirectionOk_any dx dy _).mono ?_); rw [HD.out]; rintro e w4 ⟨rfl, hb⟩; have HB4 := hide (HB3.out.trans (hb.mono HB3.out.size)); clear hb))
      go_ret
      exact ⟨intsRes_nil HB4.out, fun _ => rfl⟩
    | true =>
      have HD := hide hd
      rw [Bool.true_and, if_pos rfl]
      obtain ⟨N, hN, hN2⟩ := countL_size (near_of hd) hR hC
      have e : (countL R C dx dy).toNat = N := by rw [← hN]; simp
      rw [e]
      have HN := hide hN; have HN2 := hide hN2
      have HNP : Hid (1 ≤ N) := hide (by
        have := countL_pos (near_of hd) hR hC
        omega)
      clear hin he hR hC hd hN e hN2
      go_enter Try.func14, Try.ntmps14
      go_wp2_with (first | ((with_reducible refine HC.out.mono ?_); rintro e w1 ⟨x, rfl, ho, hb⟩; obtain ⟨xa, xn, xc, rfl⟩ := ownMat_slice ho; dsimp only [gridV]; have HI := hide (inMat_below (inMat_own ho) (HGB.out w1 xa xn xc).1); have HG := hide (HGB.out w1 xa xn xc).2; have HB1 := hide (HB.out.trans (hb.mono HB.out.size)); have HD2 := hide (dirAt_below (dirAt_below HD0.out hb) (HGB.out w1 xa xn xc).1); have HB2 := hide (HB1.out.trans ((HGB.out w1 xa xn xc).1.mono HB1.out.size)); clear hb ho) | (with_reducible refine wpList_loadGr HG.out rfl _ rfl rfl ?_) | ((with_reducible refine (elementsOk_any R C _ _ _ HI.out).mono ?_); rw [HE.out]; rintro e w2 ⟨rfl, hb⟩; have HI3 := hide (inMat_below HI.out hb); have HG3 := hide (gridAt_below HG.out hb); have HD3 := hide (dirAt_below HD2.out hb); have dc0 : w2.cell? ⟨w.heap.size, 0, none⟩ = some (.int .i64 dx) := (drC_at HD3.out).1; have dc1 : w2.cell? ⟨w.heap.size, 1, none⟩ = some (.int .i64 dy) := (drC_at HD3.out).2; have HB3 := hide (HB2.out.trans (hb.mono HB2.out.size)); clear hb) | (with_reducible refine wpList_loadDir HD3.out rfl _ rfl rfl ?_) | ((with_reducible refine (implDirectionOk_any dx dy _).mono ?_); rw [HD.out]; rintro e w4 ⟨rfl, hb⟩; have HI4 := hide (inMat_below HI3.out hb); have HD4 := hide (dirAt_below HD3.out hb); obtain ⟨q0, q1, q2⟩ := gridAt_cells (gridAt_below HG3.out hb); have HB4 := hide (HB3.out.trans (hb.mono HB3.out.size)); clear hb) | (with_reducible refine wpList_loadDir HD4.out rfl _ rfl rfl ?_) | ((with_reducible refine (sumsAlong_any _ R C N f dx dy _ HI4.out HR.out HCC.out HSM.out HD.out HN.out HN2.out).mono ?_); rintro e w5 ⟨u, rfl, ho, hb⟩; have HO := hide (own_base ho HB4.out.size); have HB5 := hide (HB4.out.trans (hb.mono HB4.out.size)); clear ho hb))
      go_ret
      exact ⟨⟨_, rfl, HO.out, HB5.out⟩, fun hn => by
        have := congrArg List.length hn
        rw [lineRowE, rowF_len] at this
        have := HNP.out
        simp at *; omega⟩
theorem implGridSums_nil (v : Value) (m : List (List Int)) (dx dy : Int) (w : World) (hin : InMat w v m) :
    Calls Try.prog 14 #[v, .agg #[.int .i64 dx, .int .i64 dy]] w (GsRes (gsL m dx dy) w) := by
  cases h : gridB m with
  | false =>
    have e : gsL m dx dy = [] := by rw [gsL, gridOkB, h]; rfl
    rw [e]; exact implGridSums_no1 v m dx dy w hin h
  | true =>
    obtain ⟨hm, hR, hC⟩ := gridB_mk h
    have h1 : InMat w v (mkM m.length (widthM m) (elM m)) := by rw [← hm]; exact hin
    have := implGridSums_in v m.length (widthM m) (elM m) dx dy w h1 hR hC
    rw [← hm] at this
    have e : gsL m dx dy = if ((m.all fun r => within r 100) && dirOk dx dy) = true then lineRowE m.length (widthM m) (elM m) dx dy (countL m.length (widthM m) dx dy).toNat else [] := by rw [gsL, gridOkB, h, Bool.true_and]
    rw [e]; exact this
theorem implGridSums_any (v : Value) (m : List (List Int)) (dx dy : Int) (w : World) (hin : InMat w v m) :
    Calls Try.prog 14 #[v, .agg #[.int .i64 dx, .int .i64 dy]] w (IntsRes (gsL m dx dy) w) := (implGridSums_nil v m dx dy w hin).mono fun _ _ h => h.1
end Go.Proofs.Ytjnnoabaepmcnaa
/-
  Contracts of the library, at this translation: laid by the shelf, in plain declarations.
-/
namespace Go.Proofs
open Go.Shelf Go.RowKit Go.Lib
def Try.laysNm215_ren : Go.Shelf.Ren := ⟨fun | 15 => 75 | n => n, fun | 22 => 30 | 3 => 3 | 4 => 4 | n => n, fun | n => n⟩
theorem Try.laysNm215 : Go.Proofs.Lays2.n15 Try.prog Try.laysNm215_ren := {
  mixed := by kernel_rfl
  f15 := Try.func75.trans (congrArg some (by kernel_rfl))
  t3 := Try.underlying3
  a3 := Try.isAgg3
  z3 := Try.sizeOf3
  v3 := Try.zeroValue3
  t4 := Try.underlying4
  a4 := Try.isAgg4
  z4 := Try.sizeOf4
  v4 := Try.zeroValue4
  t22 := Try.underlying30
  a22 := Try.isAgg30
  z22 := Try.sizeOf30
  v22 := Try.zeroValue30
  i3 := by kernel_rfl }
theorem Try.slices_Clone_int (b off n c : Nat) (zs : List Int) (w : World) (hz : n ≤ zs.length) (hbig : n * 8 ≤ 140737488355328) (hc : ∀ j, j < zs.length → w.cell? ⟨b, off + j, none⟩ = some (.int .i64 (zs.getD j 0))) :
    Calls Try.prog 75 #[.slice (some ⟨b, off, none⟩) n c] w fun e w' => ∃ v', e = .returned v' ∧ w'.ownsRow w.heap.size 3 1 v' n ((zs.take n).map (Value.int .i64)) ∧ v' ≠ .slice none 0 0 ∧ Below w.heap.size w w' := Any.slices_Clone_int Try.laysNm215 b off n c zs w hz hbig hc
theorem Try.slices_Clone_int_nil (n c : Nat) (w : World) :
    Calls Try.prog 75 #[.slice none n c] w fun e w' => e = .returned (.slice none 0 0) ∧ w' = w := Any.slices_Clone_int_nil Try.laysNm215 n c w
theorem Try.slices_Clone_int_zero (a : Addr) (c : Nat) (w : World) :
    Calls Try.prog 75 #[.slice (some a) 0 c] w fun e w' => ∃ v', e = .returned v' ∧ w'.ownsRow w.heap.size 3 1 v' 0 [] ∧ v' ≠ .slice none 0 0 ∧ Below w.heap.size w w' := Any.slices_Clone_int_zero Try.laysNm215 a c w
end Go.Proofs
/-
  The program's images: size, lists.
-/
namespace Go.Proofs.Ytjnnoabaepmcnaa
open Go.RowKit

set_option maxHeartbeats 400000 in
theorem size_any (G : Nat → Int) (n : Nat) (w : World) (hn : n ≤ 5) (h1 : ∀ j, j < n → G j ≠ -1) (h2 : n = 5 ∨ G n = -1) :
    Calls Try.prog 74 #[.agg (vec 5 G)] w fun e w' => e = .returned (.int .i64 n) ∧ Below w.heap.size w w' := by
  have N1 := hide h1; have N2 := hide h2
  clear h1 h2
  go_enter Try.func74, Try.ntmps74
  go_wp2_with (with_reducible refine wpList_boxVec 5 G 1 rfl rfl (.tmp 0) rfl rfl ?_; intro w1 h1 b1 s1)
  have H1 := hide h1; have B1 := hide b1
  clear h1 b1
  go_loop [3] (fun i => ∃ k : Nat, k ≤ n ∧ i = .int .i64 k) (fun i => n - (intOf i).toNat)
  case atStart => exact ⟨0, by omega, rfl⟩
  case round =>
    obtain ⟨k, hk, rfl⟩ := hrel
    by_cases hlt : k < n
    · have hx := blk_cell H1.out k (by omega)
      have hne := N1.out k hlt
      obtain ⟨y, hy⟩ : ∃ y, y = G k := ⟨_, rfl⟩
      rw [← hy] at hx hne
      have hb : (y != -1) = true := by simpa using hne
      have h5 : (k : Int) < 5 := by omega
      clear hy hne
      go_wp2
      go_round
      case rel => exact ⟨k + 1, by omega, by go_num⟩
      case measure => simp [intOf]; omega
    · obtain rfl : k = n := by omega
      by_cases h5 : k < 5
      · have hx := blk_cell H1.out k h5
        rw [N2.out.resolve_left (by omega)] at hx
        have h5' : (k : Int) < 5 := by omega
        go_wp2
        go_ret
        exact ⟨rfl, B1.out⟩
      · have h5' : ¬ (k : Int) < 5 := by omega
        go_wp2
        go_ret
        exact ⟨rfl, B1.out⟩

/-- A row of the padded image. -/
theorem imgF_row (R C : Nat) (f : Nat → Nat → Int) (y : Nat) : ∀ j, j < 5 → imgF R C f (y * 5 + j) = if y < R ∧ j < C then f y j else -1 := fun j hj => by
  rw [show y * 5 + j = 5 * y + j by omega, imgF_at R C f y j hj]

theorem ownMat_block {w w' : World} {lo hi g : Nat} {v : Value} {m : List (List Int)} (h : OwnMat w lo hi v m) (hg : w.grownBy w' (some g)) (hh : hi ≤ g) : OwnMat w' lo hi v m :=
  ownMat_within h (within_grown (lo := g) (hi := g + 1) hg fun k hk => by cases hk; exact ⟨Nat.le_refl _, Nat.lt_succ_self _⟩) (.inl hh)

set_option maxRecDepth 100000 in
set_option maxHeartbeats 1000000 in
theorem lists_any (R C : Nat) (f : Nat → Nat → Int) (w : World) (hI : Img R C f) :
    Calls Try.prog 46 #[.agg (vec 25 (imgF R C f))] w fun e w' => ∃ v, e = .returned v ∧ OwnMat w' w.heap.size w'.heap.size v (mkM R C f) ∧ Below w.heap.size w w' := by
  have hR := hI.r2; have hC := hI.c2; have hC1 := hI.c1
  have HI := hide hI
  clear hI
  go_enter Try.func46, Try.ntmps46
  go_wp2_with (first | (with_reducible refine wpList_boxVec 25 (imgF R C f) 1 rfl rfl (.tmp 0) rfl rfl ?_; intro w1 h1 b1 s1) | (with_reducible refine wpList_loadVec h1 7 rfl rfl _ rfl rfl Try.underlying56 Try.sizeImg ?_))
  have B1 := hide b1
  clear h1 b1 s1
  go_loopw [3, 8] (fun o i w' => ∃ (y : Nat) (v : Value), y ≤ 5 ∧ i = .int .i64 y ∧ v = o ∧ OwnMat w' w.heap.size w'.heap.size v (mkM (min y R) C f) ∧ Below w.heap.size w w') (fun _ i _ => 5 - (intOf i).toNat)
  case atStart => exact ⟨0, _, by omega, rfl, rfl, by rw [Nat.zero_min]; exact ownMat_nil _ _ _, B1.out⟩
  case round =>
    clear B1
    obtain ⟨y, v, hy, rfl, rfl, hown, hb⟩ := hrel
    have HO := hide hown; have HB := hide hb
    clear hown hb
    by_cases hlt : y < 5
    · have hyI : (y : Int) < 5 := by omega
      have HG := hide (imgF_row R C f y)
      have hsz := HB.out.size
      go_wp2_with (first | (with_reducible refine wpList_indexRow y 10 rfl rfl _ _ rfl rfl rfl Try.underlying56 Try.isAgg54 Try.sizeOf54 hlt (by omega) ?_) | (with_reducible refine wpList_allocVec 5 5 rfl rfl rfl Try.zeroRow ?_; intro w2 h2 b2 s2) | (with_reducible refine wpList_storeVec h2 rfl (.tmp 5) (.tmp 10) rfl rfl rfl Try.sizeRow ?_; intro w3 h3 g3 s3) | (with_reducible refine wpList_loadVec h3 11 rfl rfl _ rfl rfl Try.underlying54 Try.sizeRow ?_))
      have B3 := hide (HB.out.trans ((b2.mono hsz).trans (grown_below g3 (fun k hk => by cases hk; exact hsz) (by omega))))
      have O3 := hide (ownMat_block (ownMat_below HO.out b2) g3 (Nat.le_refl _))
      have H3 := hide h3
      have hs3 : w3.heap.size = wr.heap.size + 1 := by omega
      clear h2 b2 s2 h3 g3 s3
      by_cases hr : y < R
      · go_wp2_with fail
        refine (size_any _ C _ hC (fun j hj => ?_) ?_).mono ?_
        · rw [HG.out j (by omega), if_pos ⟨hr, hj⟩]
          rcases HI.out.cell y j hr hj with e | e <;> rw [e] <;> decide
        · by_cases e : C = 5
          · exact .inl e
          · right; rw [HG.out C (by omega), if_neg (by omega)]
        rintro e w4 ⟨rfl, b4⟩
        have H4 := hide (blk_below H3.out b4)
        have O4 := hide (ownMat_below O3.out b4)
        have B4 := hide (B3.out.trans (b4.mono (by omega)))
        have hs4 := b4.size
        clear b4
        have hpos : (0 : Int) < (C : Int) := by omega
        go_wp2_with (with_reducible refine wpList_sliceVec C 17 rfl rfl (.tmp 5) (.tmp 16) rfl rfl rfl Try.underlying54 Try.sizeOf3 hC ?_)
        refine (Try.slices_Clone_int wr.heap.size 0 C 5 (rowF C (f y)) _ (by rw [rowF_len]; exact Nat.le_refl _) (by omega) (fun j hj => ?_)).mono ?_
        · rw [rowF_len] at hj
          rw [Nat.zero_add, blk_cell H4.out j (by omega), HG.out j (by omega), if_pos ⟨hr, hj⟩, List.getD_eq_getElem?_getD, List.getElem?_eq_getElem (by rw [rowF_len]; exact hj), Option.getD_some, rowF_at]
        rintro e w5 ⟨u, rfl, hu, -, b5⟩
        have hu : w5.ownsRow w4.heap.size 3 1 u (rowF C (f y)).length (ints (rowF C (f y))) := by
          rw [rowF_len]
          have := hu
          rw [List.take_of_length_le (by rw [rowF_len]; exact Nat.le_refl _)] at this
          exact this
        obtain ⟨ua, uc, rfl⟩ := own_slice hu
        rw [rowF_len] at *
        have HU := hide hu
        have O5 := hide (ownMat_below O4.out b5)
        have B5 := hide (B4.out.trans (b5.mono (by omega)))
        have hs5 := b5.size
        clear hu b5
        have hmin : min y R = y := by omega
        rw [hmin] at O5
        clear hmin
        obtain ⟨vs, hv, hvh, hvr, hva⟩ := O5.out
        have hvl := mkM_len y C f
        rw [hvl] at hv
        have HV := hide hv; have HVH := hide hvh; have HVR := hide hvr; have HVA := hide hva
        clear hv hvh hvr hva hvl
        go_wp2_with (at_builtin; refine wpList_push HV.out (.slice ua C uc) (.slice none 0 0) rfl _ _ rfl Try.underlying23 Try.infoInts rfl (by decide) rfl rfl rfl (by omega) (by omega) ?_; intro v' w6 hown1 hb1 hg1)
        go_roundw
        case rel =>
          have hs6 := hb1.size
          have hp := ownMat_push (r := rowF C (f y)) (hi' := w6.heap.size) HVR.out HVA.out (by rw [mkM_len]; exact HV.out) (by rw [rowF_len]; exact own_base HU.out (by omega)) hsz (by omega) (by omega) hg1 (by rw [mkM_len]; exact hown1) (fun k e => (hown1.lt k e).2)
          rw [← mkM_succ, show y + 1 = min (y + 1) R by omega] at hp
          exact ⟨y + 1, _, by omega, by go_num, rfl, hp, B5.out.trans (hb1.mono (by omega))⟩
        case measure => simp [intOf]; omega
      · go_wp2_with fail
        refine (size_any _ 0 _ (by omega) (fun j hj => absurd hj (Nat.not_lt_zero _)) (.inr ?_)).mono ?_
        · rw [HG.out 0 (by omega), if_neg (by omega)]
        rintro e w4 ⟨rfl, b4⟩
        have O4 := hide (ownMat_below O3.out b4)
        have B4 := hide (B3.out.trans (b4.mono (by omega)))
        have hs4 := b4.size
        clear b4
        go_wp2
        go_roundw
        case rel =>
          have hp := ownMat_mono (hi' := w4.heap.size) O4.out (Nat.le_refl _) (by omega)
          rw [show min y R = min (y + 1) R by omega] at hp
          exact ⟨y + 1, _, by omega, by go_num, rfl, hp, B4.out⟩
        case measure => simp [intOf]; omega
    · have hmin : min y R = R := by omega
      rw [hmin] at HO
      clear hmin
      go_wp2
      go_ret
      exact ⟨_, rfl, HO.out, HB.out⟩
end Go.Proofs.Ytjnnoabaepmcnaa
/-
  The program's images: cell, count, transposed, inverted, distance.
-/
namespace Go.Proofs.Ytjnnoabaepmcnaa
open Go.RowKit

theorem row_below {w wr w2 w3 : World} (hb : Below w.heap.size w wr) (b2 : Below wr.heap.size wr w2) (g3 : w2.grownBy w3 (some wr.heap.size)) : Below w.heap.size w w3 :=
  hb.trans ((b2.mono hb.size).trans (grown_below g3 (fun k hk => by cases hk; exact hb.size) (Nat.le_trans hb.size b2.size)))
theorem row_blk {wr w2 w3 : World} {g n : Nat} {T : TypeId} {F : Nat → Int} (h : Blk wr g T n F) (b2 : Below wr.heap.size wr w2) (g3 : w2.grownBy w3 (some wr.heap.size)) : Blk w3 g T n F :=
  blk_grown (blk_below h b2) g3 (by have := blk_lt h; simp; omega)

set_option maxHeartbeats 1000000 in
theorem count_any (F : Nat → Int) (c : Int) (w : World) :
    Calls Try.prog 31 #[.agg (vec 25 F), .int .i64 c] w fun e w' => e = .returned (.int .i64 (cnt (fun i => F i == c) 25)) ∧ Below w.heap.size w w' := by
  obtain ⟨p, hp⟩ : ∃ p : Nat → Bool, p = fun i => F i == c := ⟨_, rfl⟩
  have hpp : Hid (∀ i, p i = (F i == c)) := hide fun i => by rw [hp]
  rw [← hp]
  clear hp
  go_enter Try.func31, Try.ntmps31
  go_wp2_with (first | (with_reducible refine wpList_boxVec 25 F 2 rfl rfl (.tmp 0) rfl rfl ?_; intro w1 h1 b1 s1) | (with_reducible refine wpList_loadVec h1 10 rfl rfl _ rfl rfl Try.underlying56 Try.sizeImg ?_))
  have B1 := hide b1
  clear h1 b1 s1
  go_loopw [5, 11] (fun n i w' => ∃ y : Nat, y ≤ 5 ∧ i = .int .i64 y ∧ n = .int .i64 (cnt p (5 * y)) ∧ Below w.heap.size w w') (fun _ i _ => 5 - (intOf i).toNat)
  case atStart => exact ⟨0, by omega, rfl, rfl, B1.out⟩
  case round =>
    clear B1
    obtain ⟨y, hy, rfl, rfl, hb⟩ := hrel
    have HB := hide hb
    clear hb
    by_cases hlt : y < 5
    · have hyI : (y : Int) < 5 := by omega
      go_wp2_with (first | (with_reducible refine wpList_indexRow y 13 rfl rfl _ _ rfl rfl rfl Try.underlying56 Try.isAgg54 Try.sizeOf54 hlt (by omega) ?_) | (with_reducible refine wpList_allocVec 5 7 rfl rfl rfl Try.zeroRow ?_; intro w2 h2 b2 s2) | (with_reducible refine wpList_storeVec h2 rfl (.tmp 7) (.tmp 13) rfl rfl rfl Try.sizeRow ?_; intro w3 h3 g3 s3) | (with_reducible refine wpList_loadVec h3 14 rfl rfl _ rfl rfl Try.underlying54 Try.sizeRow ?_))
      have B3 := hide (row_below HB.out b2 g3)
      clear h2 b2 s2 h3 g3 s3
      go_loopw [5, 15] (fun n i w' => ∃ x : Nat, x ≤ 5 ∧ i = .int .i64 x ∧ n = .int .i64 (cnt p (5 * y + x)) ∧ Below w.heap.size w w') (fun _ i _ => 5 - (intOf i).toNat)
      case atStart => exact ⟨0, by omega, rfl, rfl, B3.out⟩
      case round =>
        clear B3 HB
        obtain ⟨x, hx, rfl, rfl, hb⟩ := hrel
        have HB := hide hb
        clear hb
        have hle := cnt_le p (5 * y + x)
        by_cases hlx : x < 5
        · have hxI : (x : Int) < 5 := by omega
          have HA : Hid (y * 5 + x = 5 * y + x) := hide (by omega)
          by_cases hc : F (5 * y + x) = c
          · have HC := hide (cnt_yes (p := p) (k := 5 * y + x) (by rw [hpp.out]; simpa using hc))
            have hcb : (F (5 * y + x) == c) = true := by simpa using hc
            clear hc
            go_wp2_with ((with_reducible refine wpList_indexVec x 17 rfl rfl _ _ rfl rfl rfl Try.underlying54 Try.isAgg3 Try.sizeOf3 hlx ?_; rw [HA.out]))
            go_roundw
            case rel => exact ⟨x + 1, by omega, by go_num, by rw [← Nat.add_assoc, HC.out]; go_num, HB.out⟩
            case measure => simp [intOf]; omega
          · have HC := hide (cnt_no (p := p) (k := 5 * y + x) (by rw [hpp.out]; simpa using hc))
            have hcb : (F (5 * y + x) == c) = false := by simpa using hc
            clear hc
            go_wp2_with ((with_reducible refine wpList_indexVec x 17 rfl rfl _ _ rfl rfl rfl Try.underlying54 Try.isAgg3 Try.sizeOf3 hlx ?_; rw [HA.out]))
            go_roundw
            case rel => exact ⟨x + 1, by omega, by go_num, by rw [← Nat.add_assoc, HC.out], HB.out⟩
            case measure => simp [intOf]; omega
        · obtain rfl : x = 5 := by omega
          go_wp2
          go_roundw
          case rel => exact ⟨y + 1, by omega, by go_num, by rw [show 5 * (y + 1) = 5 * y + 5 by omega], HB.out⟩
          case measure => simp [intOf]; omega
    · obtain rfl : y = 5 := by omega
      go_wp2
      go_ret
      exact ⟨rfl, HB.out⟩

/-- The first y columns of the exchanged image, and x cells of the next one. -/
def upT (F : Nat → Int) (y x : Nat) (i : Nat) : Int := if i % 5 < y ∨ (i % 5 = y ∧ i / 5 < x) then F (5 * (i % 5) + i / 5) else 0
theorem upT_zero (F : Nat → Int) : upT F 0 0 = fun _ => 0 := by funext i; rw [upT, if_neg (by omega)]
theorem upT_set (F : Nat → Int) (y x : Nat) (hy : y < 5) : (fun j => if j = 5 * x + y then F (5 * y + x) else upT F y x j) = upT F y (x + 1) := by
  funext j
  simp only [upT]
  by_cases e : j = 5 * x + y
  · subst e
    rw [if_pos rfl, if_pos (by omega), show (5 * x + y) % 5 = y by omega, show (5 * x + y) / 5 = x by omega]
  · rw [if_neg e]
    by_cases hl : j % 5 < y ∨ (j % 5 = y ∧ j / 5 < x)
    · rw [if_pos hl, if_pos (by omega)]
    · rw [if_neg hl, if_neg (by omega)]
theorem upT_next (F : Nat → Int) (y : Nat) : ∀ i, i < 25 → upT F y 5 i = upT F (y + 1) 0 i := fun i hi => by
  simp only [upT]
  by_cases hl : i % 5 < y + 1
  · rw [if_pos (by omega), if_pos (by omega)]
  · rw [if_neg (by omega), if_neg (by omega)]
theorem upT_all (F : Nat → Int) : ∀ i, i < 25 → upT F 5 0 i = F (5 * (i % 5) + i / 5) := fun i hi => by rw [upT, if_pos (by omega)]

set_option maxHeartbeats 1000000 in
theorem transposed_any (F : Nat → Int) (w : World) :
    Calls Try.prog 45 #[.agg (vec 25 F)] w fun e w' => e = .returned (.agg (vec 25 fun i => F (5 * (i % 5) + i / 5))) ∧ Below w.heap.size w w' := by
  go_enter Try.func45, Try.ntmps45
  go_wp2_with (first | (with_reducible refine wpList_boxVec 25 F 1 rfl rfl (.tmp 0) rfl rfl ?_; intro w1 h1 b1 s1) | (with_reducible refine wpList_allocVec 25 2 rfl rfl rfl Try.zeroImg ?_; intro wa ha ba sa) | (with_reducible refine wpList_allocVec 25 3 rfl rfl rfl Try.zeroImg ?_; intro wb hb bb sb) | (with_reducible refine wpList_loadVec (blk_below (blk_below h1 ba) bb) 8 rfl rfl _ rfl rfl Try.underlying56 Try.sizeImg ?_))
  have B1 := hide (b1.trans ((ba.mono (by omega)).trans (bb.mono (by omega))))
  have HR := hide (blk_below ha bb)
  have HP := hide hb
  have hsz : w.heap.size + 2 < wb.heap.size := by omega
  rw [s1] at HR sa
  rw [sa] at HP
  rw [show w.heap.size + 1 + 1 = w.heap.size + 2 by omega] at HP
  clear h1 b1 ha ba hb bb sb s1 sa
  go_loopw [9] (fun i w' => ∃ y : Nat, y ≤ 5 ∧ i = .int .i64 y ∧ Blk w' (w.heap.size + 2) 56 25 (upT F y 0) ∧ Blk w' (w.heap.size + 1) 56 25 (fun _ => 0) ∧ Below w.heap.size w w') (fun i _ => 5 - (intOf i).toNat)
  case atStart => exact ⟨0, by omega, rfl, by rw [upT_zero]; exact HP.out, HR.out, B1.out⟩
  case round =>
    clear B1 HP HR hsz
    obtain ⟨y, hy, rfl, hp, hr, hb⟩ := hrel
    have HP := hide hp; have HR := hide hr; have HB := hide hb
    clear hp hr hb
    by_cases hlt : y < 5
    · have hyI : (y : Int) < 5 := by omega
      go_wp2_with (first | (with_reducible refine wpList_indexRow y 12 rfl rfl _ _ rfl rfl rfl Try.underlying56 Try.isAgg54 Try.sizeOf54 hlt (by omega) ?_) | (with_reducible refine wpList_allocVec 5 5 rfl rfl rfl Try.zeroRow ?_; intro w2 h2 b2 s2) | (with_reducible refine wpList_storeVec h2 rfl (.tmp 5) (.tmp 12) rfl rfl rfl Try.sizeRow ?_; intro w3 h3 g3 s3) | (with_reducible refine wpList_loadVec h3 13 rfl rfl _ rfl rfl Try.underlying54 Try.sizeRow ?_))
      have B3 := hide (row_below HB.out b2 g3)
      have P3 := hide (row_blk HP.out b2 g3)
      have R3 := hide (row_blk HR.out b2 g3)
      clear h2 b2 s2 h3 g3 s3
      go_loopw [14] (fun i w' => ∃ x : Nat, x ≤ 5 ∧ i = .int .i64 x ∧ Blk w' (w.heap.size + 2) 56 25 (upT F y x) ∧ Blk w' (w.heap.size + 1) 56 25 (fun _ => 0) ∧ Below w.heap.size w w') (fun i _ => 5 - (intOf i).toNat)
      case atStart => exact ⟨0, by omega, rfl, P3.out, R3.out, B3.out⟩
      case round =>
        clear B3 P3 R3 HB HP HR
        obtain ⟨x, hx, rfl, hp, hr, hb⟩ := hrel
        have HP := hide hp; have HR := hide hr; have HB := hide hb
        clear hp hr hb
        by_cases hlx : x < 5
        · have hxI : (x : Int) < 5 := by omega
          have HS := hide (upT_set F y x hlt)
          have hcl := blk_cell HP.out (5 * x + y) (by omega)
          have hfr := blk_frozen HP.out (5 * x + y)
          have HA : Hid (0 + x * 5 + y * 1 = 5 * x + y) := hide (by omega)
          have HE : Hid (y * 5 + x = 5 * y + x) := hide (by omega)
          go_wp2_with (first | (with_reducible refine wpList_indexVec x 17 rfl rfl _ _ rfl rfl rfl Try.underlying54 Try.isAgg3 Try.sizeOf3 hlx ?_; rw [HE.out]) | (with_reducible refine wpList_indexAt x 21 rfl rfl _ _ rfl rfl rfl Try.underlying56 Try.sizeOf54 hlx ?_) | (with_reducible refine wpList_indexAt y 22 rfl rfl _ _ rfl rfl rfl Try.underlying54 Try.sizeOf3 hlt ?_; rw [HA.out]))
          go_roundw
          case rel => exact ⟨x + 1, by omega, by go_num, by have := blk_set HP.out (5 * x + y) (F (5 * y + x)); rw [HS.out] at this; exact this, blk_other HR.out _ _ (by simp), HB.out.setCell (by show w.heap.size ≤ w.heap.size + 2; omega) _⟩
          case measure => simp [intOf]; omega
        · obtain rfl : x = 5 := by omega
          go_wp2
          go_roundw
          case rel => exact ⟨y + 1, by omega, by go_num, blk_congr HP.out (upT_next F y), HR.out, HB.out⟩
          case measure => simp [intOf]; omega
    · obtain rfl : y = 5 := by omega
      have HP := hide (blk_congr HP.out (upT_all F))
      go_wp2_with (first | (with_reducible refine wpList_loadVec HP.out 25 rfl rfl _ rfl rfl Try.underlying56 Try.sizeImg ?_) | (with_reducible refine wpList_storeVec HR.out rfl (.tmp 2) (.tmp 25) rfl rfl rfl Try.sizeImg ?_; intro w4 h4 g4 s4))
      refine bodyPost_ret (results_vec rfl _ _ (w.heap.size + 1) 25 _ 56 _ _ rfl h4 Try.underlying56 Try.sizeImg) rfl ⟨rfl, ?_⟩
      exact HB.out.trans (grown_below g4 (fun k hk => by cases hk; exact Nat.le_succ _) HB.out.size)
end Go.Proofs.Ytjnnoabaepmcnaa
/-
  The program's images: inverted, distance, mirrored.
-/
namespace Go.Proofs.Ytjnnoabaepmcnaa
open Go.RowKit

def invN (v : Int) : Int := if v = -1 then -1 else 1 - v
def upI (F : Nat → Int) (k : Nat) (i : Nat) : Int := if i < k then invN (F i) else F i
theorem upI_zero (F : Nat → Int) : upI F 0 = F := by funext i; simp [upI]
theorem upI_set (F : Nat → Int) (k : Nat) (v : Int) (h : invN (F k) = v) : (fun j => if j = k then v else upI F k j) = upI F (k + 1) := by
  funext j
  simp only [upI]
  by_cases e : j = k
  · subst e; simp [h]
  · rw [if_neg e]
    by_cases hl : j < k
    · rw [if_pos hl, if_pos (by omega)]
    · rw [if_neg hl, if_neg (by omega)]
theorem upI_skip (F : Nat → Int) (k : Nat) (h : F k = -1) : upI F k = upI F (k + 1) := by
  funext j
  simp only [upI]
  by_cases hl : j < k
  · rw [if_pos hl, if_pos (by omega)]
  · by_cases e : j = k
    · subst e; simp [h, invN]
    · rw [if_neg hl, if_neg (by omega)]
theorem upI_all (F : Nat → Int) : ∀ i, i < 25 → upI F (5 * 5) i = invN (F i) := fun i hi => by rw [upI, if_pos (by omega)]

/-- What distance answers: the number, and whether the sizes are the same. -/
def DistRes (b : Bool) (n : Nat) (w : World) (e : Ending) (w' : World) : Prop := e = .returned (.tuple #[.int .i64 (if b then n else 0 : Nat), .bool b]) ∧ Below w.heap.size w w'
theorem dist_no {b : Bool} {n : Nat} {w : World} {w' : World} (hb : b = false) (h : Below w.heap.size w w') : DistRes b n w (.returned (.tuple #[.int .i64 0, .bool false])) w' := by subst hb; exact ⟨rfl, h⟩
/-- Numbers put over others, from place o on. -/
def overF (F : Nat → Int) (o : Nat) (r : List Int) (j : Nat) : Int := if o ≤ j ∧ j < o + r.length then r.getD (j - o) 0 else F j
theorem blk_setCells {g n : Nat} {T : TypeId} : ∀ (r : List Int) (o : Nat) (w : World) (F : Nat → Int), Blk w g T n F → Blk (w.setCells g o (ints r)) g T n (overF F o r) ∧ w.grownBy (w.setCells g o (ints r)) (some g) ∧ (w.setCells g o (ints r)).heap.size = w.heap.size
  | [], o, w, F, h => ⟨blk_congr h fun i _ => by simp only [overF, List.length_nil]; rw [if_neg (by omega)], ⟨rfl, rfl, rfl, Nat.le_refl _, fun _ _ _ => rfl⟩, rfl⟩
  | x :: r, o, w, F, h => by
    have h1 := blk_set h o x
    obtain ⟨h2, h3, h4⟩ := blk_setCells r (o + 1) _ _ h1
    refine ⟨blk_congr h2 fun i _ => ?_, ?_, ?_⟩
    · simp only [overF, List.length_cons]
      by_cases e : i = o
      · subst e; rw [if_neg (by omega), if_pos rfl, if_pos (by omega), Nat.sub_self]; rfl
      · by_cases hl : o + 1 ≤ i ∧ i < o + 1 + r.length
        · rw [if_pos hl, if_pos (by omega), show i - o = (i - (o + 1)) + 1 by omega]; rfl
        · rw [if_neg hl, if_neg e, if_neg (by omega)]
    · refine grown_trans (b := w.setCell ⟨g, o, none⟩ (.int .i64 x)) ⟨rfl, rfl, rfl, by simp [World.setCell], fun k _ hr => heap_setCell_other w _ k _ fun e => hr (by rw [e])⟩ h3
    · show ((w.setCell ⟨g, o, none⟩ (.int .i64 x)).setCells g (o + 1) (ints r)).heap.size = w.heap.size
      rw [h4]; simp [World.setCell]
theorem vec_ints (n : Nat) (F : Nat → Int) : vecL n F = ints (rowF n F) := by simp [vecL, ints, rowF]

/-- A row goes into the middle of a variable. -/
theorem wpList_storeMid {P : Program} {ops : Array Oper} {rest : List Oper} {o : Oper} {a : Act} {Q : Exit → Act → World → Prop} {W : World} {g b n s : Nat} {T T' : TypeId} {F G : Nat → Int} (hb : Blk W g T n F)
    (hgd : o.guard = none) (x y : Operand) (ho : o.op = .store T' x y) (hx : a.eval x = .pointer (some ⟨g, b, none⟩)) (hy : a.eval y = .agg (vec s G)) (hi : (P.info? T').map (·.size) = some s) (hn : b + s ≤ n)
    (h : ∀ w', Blk w' g T n (fun j => if b ≤ j ∧ j < b + s then G (j - b) else F j) → W.grownBy w' (some g) → w'.heap.size = W.heap.size → wpList P ops Q rest (a.put o.dst undef) w') : wpList P ops Q (o :: rest) a W := by
  refine wpList_store_mid hgd T' x y ho g b (vec s G) hx hy (fun j hj => ?_) (by rw [hi, vec_size]) (vec_one s G) ?_
  · rw [vec_size] at hj
    exact ⟨by rw [blk_cell hb (b + j) (by omega)]; rfl, blk_frozen hb _⟩
  · have e : (vec s G).toList = ints (rowF s G) := by rw [← vec_ints]; rfl
    obtain ⟨h1, h2, h3⟩ := blk_setCells (rowF s G) b W F hb
    rw [e]
    refine h _ (blk_congr h1 fun i _ => ?_) h2 h3
    simp only [overF, rowF_len]
    by_cases hl : b ≤ i ∧ i < b + s
    · rw [if_pos hl, if_pos hl, List.getD_eq_getElem?_getD, List.getElem?_eq_getElem (by rw [rowF_len]; omega), Option.getD_some, rowF_at]
    · rw [if_neg hl, if_neg hl]

def mirR (n : Nat) (G : Nat → Int) (j : Nat) : Int := if j < n then G (n - 1 - j) else G j
end Go.Proofs.Ytjnnoabaepmcnaa
