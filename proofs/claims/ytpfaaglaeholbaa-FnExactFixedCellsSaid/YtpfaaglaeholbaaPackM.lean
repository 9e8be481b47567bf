/-
  Texts of this claim, one behind the other: AllQ, CountI, Concat, CountF, FixI, AllP.
-/
import Derived.Test.YtpfaaglaeholbaaPackL
import Derived.Test.YtpfaaglaeholbaaPackC
import Derived.Test.YtpfaaglaeholbaaPackD
import Derived.Shelf.Spec.SlicesGrow
import Derived.Test.YtpfaaglaeholbaaPackB
import Derived.Test.YtpfaaglaeholbaaPackF
import Derived.Maps.OwnIn
/-
  AllImages and CountImages of the model.
-/
namespace Go.Proofs.Ytpfaaglaeholbaa
open Go.RowKit

/-- All images with given sums; none where the sums are refused. -/
def allIm (r c : List Int) : List (List (List Int)) := if existsOf r c = true then allL r c else []
def countIm (r c : List Int) : Int := if sumsOk r c = true then ((allIm r c).length : Int) else -1
theorem allL_none {r c : List Int} (h : sumsOk r c = true) (he : existsOf r c = false) : allL r c = [] := by
  obtain ⟨hr, hc, -⟩ := sumsOk_yes h
  cases r with
  | nil => simp at hr
  | cons a r =>
    rw [allL, List.flatMap_eq_nil_iff]
    intro row hrow
    cases hb : restB r (subL c row) with
    | false => simp
    | true =>
      exfalso
      have h1 := (restB_iff (by simp at hr; omega) (by rw [subL_len]; exact hc)).1 hb
      have h2 := exists_of_img hr hc ((hasImg_cons a r c).2 ⟨row, (mem_rowsL _ _ _).1 hrow, h1⟩)
      rw [he] at h2; cases h2
theorem allIm_sums {r c : List Int} (h : sumsOk r c = true) : allIm r c = allL r c := by
  unfold allIm
  cases he : existsOf r c with
  | true => simp
  | false => simp [allL_none h he]
theorem allIm_refused {r c : List Int} (h : sumsOk r c = false) : allIm r c = [] := by
  unfold allIm
  rw [if_neg]
  intro he
  rw [existsOf_sums he] at h; cases h
theorem allIm_len (r c : List Int) : (allIm r c).length ≤ 100000 := by
  unfold allIm
  split
  · rename_i h
    obtain ⟨hr, hc, -⟩ := sumsOk_yes (existsOf_sums h)
    refine Nat.le_trans (allL_len r c hc.2) ?_
    exact Nat.le_trans (Nat.pow_le_pow_right (by decide) hr.2) (by decide)
  · simp
/-- The call answers a list of lists of lists of its own, and a bool. -/
def ImgsRes2 (ms : List (List (List Int))) (b : Bool) (w : World) (e : Ending) (w' : World) : Prop := ∃ v, e = .returned (.tuple #[v, .bool b]) ∧ OwnImgs w' w.heap.size v ms ∧ Below w.heap.size w w'
theorem ownImgs_nil (w : World) (lo : Nat) : OwnImgs w lo (.slice none 0 0) [] := ⟨[], World.ownsRow_nil _ _ _ _, fun _ h => absurd h (Nat.not_lt_zero _)⟩

set_option maxHeartbeats 400000 in
theorem specAllIm_any (va vb : Value) (r c : List Int) (w : World) (ha : RowC w va r) (hb : RowC w vb c) :
    Calls Try.prog 28 #[va, vb] w (ImgsRes2 (allIm r c) (sumsOk r c) w) := by
  have HA := hide ha.1; have HB := hide hb.1
  cases h : sumsOk r c with
  | false =>
    rw [allIm_refused h]
    have H := hide h
    clear h ha hb
    go_enter Try.func28, Try.ntmps28
    go_wp2_with ((with_reducible refine (specSumsOk_any va vb r c _ HA.out HB.out).mono ?_); rw [H.out]; rintro e w1 ⟨rfl, b1⟩; have B1 := hide b1; clear b1)
    go_ret2
    exact ⟨_, rfl, ownImgs_nil _ _, B1.out⟩
  | true =>
    have H := hide h
    cases he : existsOf r c with
    | false =>
      rw [allIm_sums h, allL_none h he]
      have HE := hide he
      clear h he ha hb
      go_enter Try.func28, Try.ntmps28
      go_wp2_with (first | ((with_reducible refine (specSumsOk_any va vb r c _ HA.out HB.out).mono ?_); rw [H.out]; rintro e w1 ⟨rfl, b1⟩; have B1 := hide b1; clear b1) | ((with_reducible refine (specExists_any va vb r c _ (inRow_below HA.out B1.out) (inRow_below HB.out B1.out)).mono ?_); rw [HE.out]; rintro e w2 ⟨rfl, b2⟩; have B2 := hide (B1.out.trans (b2.mono B1.out.size)); clear b2))
      go_ret2
      exact ⟨_, rfl, ownImgs_nil _ _, B2.out⟩
    | true =>
      rw [allIm_sums h]
      have HE := hide he
      have HALL := hide fun (w' : World) (hw : Below w.heap.size w w') => specAll_start r c va vb w w' ha hb.1 he hw
      obtain ⟨xa, ca, hva, -, -⟩ := ha.1
      obtain ⟨xb, cb, hvb, -, -⟩ := hb.1
      subst hva hvb
      obtain ⟨R, hR⟩ : ∃ R, R = r.length := ⟨_, rfl⟩
      obtain ⟨C, hC⟩ : ∃ C, C = c.length := ⟨_, rfl⟩
      rw [← hR] at HA HALL ⊢
      rw [← hC] at HB HALL ⊢
      clear h he ha hb hR hC
      go_enter Try.func28, Try.ntmps28
      go_wp2_with (first | ((with_reducible refine (specSumsOk_any _ _ r c _ HA.out HB.out).mono ?_); rw [H.out]; rintro e w1 ⟨rfl, b1⟩; have B1 := hide b1; clear b1) | ((with_reducible refine (specExists_any _ _ r c _ (inRow_below HA.out B1.out) (inRow_below HB.out B1.out)).mono ?_); rw [HE.out]; rintro e w2 ⟨rfl, b2⟩; have B2 := hide (B1.out.trans (b2.mono B1.out.size)); clear b2) | ((with_reducible refine (HALL.out _ B2.out).mono ?_); rintro e w3 ⟨u, rfl, ⟨us, hv, hm⟩, hb3⟩; obtain ⟨au, cu, rfl⟩ := own_slice hv; have HR3 := hide (And.intro (show OwnImgs _ _ _ _ from ⟨us, hv, hm⟩) hb3); clear hv hm hb3))
      go_ret2
      exact ⟨_, rfl, HR3.out.1, HR3.out.2⟩

set_option maxHeartbeats 400000 in
theorem specCount_im (va vb : Value) (r c : List Int) (w : World) (ha : RowC w va r) (hb : RowC w vb c) :
    Calls Try.prog 36 #[va, vb] w fun e w' => e = .returned (.int .i64 (countIm r c)) ∧ Below w.heap.size w w' := by
  have HALL := hide (specAllIm_any va vb r c w ha hb)
  have HLEN := hide (allIm_len r c)
  have HCI := hide (show countIm r c = if sumsOk r c = true then ((allIm r c).length : Int) else -1 from rfl)
  obtain ⟨ms, hms⟩ : ∃ ms, ms = allIm r c := ⟨_, rfl⟩
  obtain ⟨ok, hok⟩ : ∃ ok, ok = sumsOk r c := ⟨_, rfl⟩
  obtain ⟨ans, hans⟩ : ∃ ans, ans = countIm r c := ⟨_, rfl⟩
  rw [← hans] at HCI ⊢
  rw [← hms, ← hok] at HALL HCI
  rw [← hms] at HLEN
  clear hms hok hans ha hb
  go_enter Try.func36, Try.ntmps36
  go_wp2_with fail
  refine HALL.out.mono ?_
  rintro e w2 ⟨u, rfl, ⟨us, hv, -⟩, hb2⟩
  obtain ⟨au, cu, rfl⟩ := own_slice hv
  have HB2 := hide hb2
  clear hv hb2
  cases ok with
  | false =>
    go_wp2
    go_ret
    exact ⟨by rw [HCI.out]; rfl, HB2.out⟩
  | true =>
    go_wp2
    go_ret
    exact ⟨by rw [HCI.out]; rfl, HB2.out⟩
end Go.Proofs.Ytpfaaglaeholbaa
/-
  CountImages of the program: a count while all images are handed on.
-/
namespace Go.Proofs.Ytpfaaglaeholbaa
open Go.RowKit Go.Shelf
attribute [local go_sem] Oper.semAt_some

theorem below_itStep {w W W' : World} {A A' : Nat → Prop} (hb : Below w.heap.size w W) (hA : ∀ k, A k → w.heap.size ≤ k) (h : ItStep A A' W W') : Below w.heap.size w W' :=
  ⟨h.1.os.trans hb.os, h.1.tape.trans hb.tape, h.1.output.trans hb.output, Nat.le_trans hb.size h.1.size, fun k hk => by rw [h.1.block k (Nat.lt_of_lt_of_le hk hb.size) (fun ha => by have := hA k ha; omega)]; exact hb.block k hk⟩
theorem below_putObj {B : Nat} {w W : World} {k : Nat} (h : Below B w W) (hk : B ≤ k) (o : Obj) : Below B w (W.putObj k o) :=
  ⟨h.os, h.tape, h.output, by simpa using h.size, fun i hi => by rw [World.putObj_heap_other (by omega)]; exact h.block i hi⟩
theorem iter_start {r c : List Int} {va vb : Value} {w W : World} {b1 b2 : Nat} {A : Nat → Prop} (ha : RowC w va r) (hb : InRow w vb c) (hs : sumsOk r c = true) (hW : Below w.heap.size w W) (hA : ∀ k, A k → w.heap.size ≤ k ∧ k < W.heap.size)
    (h1 : W.cell? ⟨b1, 0, none⟩ = some va) (h2 : W.cell? ⟨b2, 0, none⟩ = some vb) (hb1 : ¬ A b1) (hb2 : ¬ A b2) :
    EachC Try.prog 110 #[.pointer (some ⟨b1, 0, none⟩), .pointer (some ⟨b2, 0, none⟩)] (allL r c) ValM W A := by
  obtain ⟨hr5, hc5, -, hcb, -⟩ := sumsOk_yes hs
  refine iter_any r c b1 b2 va vb A W (safe_and (safe_cell h1 hb1) (safe_and (safe_cell h2 hb2) (safe_and (fun A' W' h => rowC_below ha (below_itStep hW (fun k hk => (hA k hk).1) h)) (fun A' W' h => inRow_below hb (below_itStep hW (fun k hk => (hA k hk).1) h))))) (fun k hk => (hA k hk).2) hr5.2 hc5 ⟨hc5.2, fun x hx => ?_⟩
  have := noBad_at hcb hx
  rw [List.getD_eq_getElem?_getD, List.getElem?_eq_getElem hx, Option.getD_some]
  omega

set_option maxRecDepth 100000 in
set_option maxHeartbeats 1000000 in
theorem implCount_im (va vb : Value) (r c : List Int) (w : World) (ha : RowC w va r) (hb : RowC w vb c) :
    Calls Try.prog 37 #[va, vb] w fun e w' => e = .returned (.int .i64 (countIm r c)) ∧ Below w.heap.size w w' := by
  have HA := hide ha.1; have HB := hide hb.1
  refine (callsIn_wide (n := 0)).1 ?_
  cases h : sumsOk r c with
  | false =>
    have HC := hide (show countIm r c = -1 by unfold countIm; rw [h]; rfl)
    have H := hide h
    rw [HC.out]
    clear h ha hb
    refine callsIn_of_wp_marks Try.func37 rfl trivial ?_ rfl
    simp only [Try.ntmps37, List.size_toArray, List.length_cons, List.length_nil, Nat.reduceAdd, Nat.reduceSub, Array.replicate_succ, Array.replicate_zero, List.push_toArray, List.append_toArray, List.nil_append, List.cons_append]
    gi_wp2_with fail
    refine ⟨trivial, rfl, (callsIn_wide (n := 0)).2 ((implSumsOk_any va vb r c _ HA.out HB.out).mono ?_)⟩
    rw [H.out]
    rintro e w1 ⟨rfl, b1⟩
    have B1 := hide b1
    clear b1
    gi_wp2
    exact ⟨_, results_tmp rfl _ _ _, rfl, B1.out⟩
  | true =>
    have HC := hide (show countIm r c = ((allL r c).length : Int) by unfold countIm; rw [h, allIm_sums h]; rfl)
    have HLEN := hide (show (allL r c).length ≤ 100000 by rw [← allIm_sums h]; exact allIm_len r c)
    have H := hide h
    rw [HC.out]
    have HRC := hide ha
    obtain ⟨xa, ca, hva, -, -⟩ := ha.1
    obtain ⟨xb, cb, hvb, -, -⟩ := hb.1
    subst hva hvb
    have HIW := hide fun w' (hw : Below w.heap.size w w') => imagesWith_any _ _ r c w' (rowC_below HRC.out hw) (inRow_below HB.out hw)
    obtain ⟨R, hR⟩ : ∃ R, R = r.length := ⟨_, rfl⟩
    obtain ⟨C, hCC⟩ : ∃ C, C = c.length := ⟨_, rfl⟩
    rw [← hR] at HA HRC HIW ⊢
    rw [← hCC] at HB HIW ⊢
    clear h ha hb hR hCC
    refine callsIn_of_wp_marks Try.func37 rfl trivial ?_ rfl
    simp only [Try.ntmps37, List.size_toArray, List.length_cons, List.length_nil, Nat.reduceAdd, Nat.reduceSub, Array.replicate_succ, Array.replicate_zero, List.push_toArray, List.append_toArray, List.nil_append, List.cons_append]
    gi_wp2_with fail
    refine ⟨trivial, rfl, (callsIn_wide (n := 0)).2 ((implSumsOk_any _ _ r c _ HA.out HB.out).mono ?_)⟩
    rw [H.out]
    rintro e w1 ⟨rfl, b1⟩
    have B1 := hide b1
    clear b1
    gi_wp2_with fail
    obtain ⟨w2, hw2⟩ : ∃ w2, w2 = w1.alloc (.cells #[.int .i64 0] 3) := ⟨_, rfl⟩
    rw [← hw2]
    have HBX := hide (show Boxed w2 w1.heap.size 3 (.int .i64 0) by rw [hw2]; exact Boxed.new _ _ _)
    have B2 := hide (show Below w.heap.size w w2 by rw [hw2]; exact B1.out.alloc B1.out.size _)
    have HS2 := hide (show w2.heap.size = w1.heap.size + 1 by rw [hw2]; simp)
    clear hw2
    refine ⟨trivial, rfl, (callsIn_wide (n := 0)).2 ((HIW.out w2 B2.out).mono ?_)⟩
    rintro e w3 ⟨rfl, hx1, hx2, hb3, hs3⟩
    have B3 := hide (B2.out.trans (hb3.mono B2.out.size))
    have HX := hide (And.intro hx1 hx2)
    have HS3 := hide hs3
    have HBX3 := hide (show Boxed w3 w1.heap.size 3 (.int .i64 0) from (hb3.block _ HBX.out.lt).trans HBX.out)
    clear hx1 hx2 hb3 hs3
    gi_wp2_with fail
    refine wp_rangeEach (gf := 110) (lb := #[.pointer (some ⟨w2.heap.size, 0, none⟩), .pointer (some ⟨w2.heap.size + 1, 0, none⟩)]) rfl (enters_of Try.func110 (by kernel_rfl) rfl)
      (L := allL r c) (Val := ValM) (fun v m lo G W W' h1 _ h3 => valM_agr h1 h3) (fun k => k = w1.heap.size) (fun k hk => by have h1 := HS2.out; have h2 := HS3.out; omega) (fun W4 hb4 hs4 => ?seq) rfl
      (fun pre A W => (∀ k, A k ↔ k = w1.heap.size) ∧ Boxed W w1.heap.size 3 (.int .i64 pre.length))
      (fun _ _ _ _ => False) ?hI (fun _ _ _ _ _ h => h.elim) (fun pre A W h k hk => by rw [(h.1 k).1 hk]; exact h.2.lt) ⟨fun k => Iff.rfl, HBX3.out⟩
      (fun x => { tmps := #[.slice xa R ca, .slice xb C cb, undef, undef, .int .i64 0, .pointer (some ⟨w1.heap.size, 0, none⟩), .slice xa R ca, .slice xb C cb, .bool true, .bool false, .slice xa R ca, .slice xb C cb, .func (.func 110) #[] #[.pointer (some ⟨w2.heap.size, 0, none⟩), .pointer (some ⟨w2.heap.size + 1, 0, none⟩)], x, undef, undef, undef], defers := [] }) ?assign ?body ?done ?stop
    case seq =>
      have h1 := HS2.out; have h2 := HS3.out
      refine iter_start HRC.out HB.out H.out (B3.out.trans (hb4.mono B3.out.size)) (fun k hk => ⟨by have := B1.out.size; omega, by omega⟩) (below_cell hb4 (by omega) HX.out.1) (below_cell hb4 (by omega) HX.out.2) (by omega) (by omega)
    case hI => exact fun s A W W' h _ _ _ _ hk => ⟨h.1, by
      have h1 := HS2.out; have h2 := HS3.out
      exact (hk _ h.2.lt (.inl (by omega))).trans h.2⟩
    case assign =>
      intro l2 x m lo G W K _ hK
      gi_wp2
      simp
      exact hK
    case body =>
      intro l2 pre A m v lo G W hi hst hpre hval hlo hlo1 hAlo hG
      have hlen : pre.length + 1 ≤ 100000 := by have := hpre.length_le; have := HLEN.out; rw [List.length_append, List.length_singleton] at *; omega
      have HA1 := hide hi.1
      have HBW := hide hi.2
      have hc1 := hi.2.cell
      have hf1 := hi.2.frozen
      clear hi hst hpre hval hlo hlo1 hAlo hG
      gi_wp2
      refine ⟨A, ⟨HA1.out, ?_⟩, ⟨⟨rfl, rfl, rfl, by simp [World.setCell], fun k hk hn => Below.heap_setCell _ _ _ _ (fun e => hn ((HA1.out k).2 e))⟩, fun k hk => .inl hk⟩⟩
      have := HBW.out.set (.int .i64 ((pre.length : Int) + 1))
      rw [List.length_append, List.length_singleton, show ((pre.length + 1 : Nat) : Int) = (pre.length : Int) + 1 by omega]
      exact this
    case done =>
      intro A W hi hst _ hmk
      have hc1 := hi.2.cell
      have HMK := hide hmk
      have hB := below_itStep B3.out (fun k hk => by have := B1.out.size; omega) hst
      have HBB := hide hB
      clear hi hst hmk hB
      gi_wp2
      refine ⟨by simp, .inl ⟨_, _, rfl, run_takeDeferred HMK.out, ?_⟩⟩
      exact ⟨_, results_tmp rfl _ _ _, rfl, below_putObj HBB.out B3.out.size _⟩
    case stop =>
      intro cc pre A W hpre h
      exact h.elim
end Go.Proofs.Ytpfaaglaeholbaa
/-
  slices.Grow of nil, slices.Concat of rows, and the count of fixed cells.
-/
namespace Go.Proofs
open Go.Shelf
shelf_lay_g Lays8.n4 Nm8 4 at Try 134 as Try.growI
end Go.Proofs
namespace Go.Proofs.Ytpfaaglaeholbaa
open Go.RowKit Go.Shelf

theorem grow_nil (n : Nat) (w : World) (hn : n ≤ 1000) :
    Calls Try.prog 134 #[.slice none 0 0, .int .i64 n] w fun e w' => ∃ u, e = .returned u ∧ w'.ownsRow w.heap.size 3 1 u 0 [] ∧ Below w.heap.size w w' := by
  obtain ⟨i0, hi, hz0, hz1, hz2⟩ := info_parts Try.infoInt
  by_cases h0 : n = 0
  · subst h0
    refine (Any8.slices_Grow_room Try.growI none 0 0 0 w (by omega) (by omega) (by omega) (by omega)).mono ?_
    rintro e w' ⟨rfl, rfl⟩
    exact ⟨_, rfl, World.ownsRow_nil _ _ _ _, Below.refl _ _⟩
  · refine (Any8.slices_Grow_grow Try.growI i0 (.int .i64 0) hi hz0 (by rw [hz1]; decide) none 0 0 n [] w (by omega) (by omega) (by rw [hz2]; omega) (by omega) (by simp) (fun _ => rfl) (fun a ha => by cases ha)).mono ?_
    rintro e w' ⟨rfl, rfl⟩
    have hG : 0 + n ≤ grownCap w (0 + n) 0 3 := grownCap_ge w _ _ _
    have hM : grownCap w (0 + n) 0 3 ≤ maxLen := grownCap_le_maxLen w _ _ _ (by unfold maxLen; omega)
    refine ⟨_, rfl, World.ownsRow_made w.drew _ _ (Nat.le_refl _) hM ?_, (below_drew (Below.refl _ w)).alloc (Nat.le_refl _) _⟩
    have e25 : Try.growI_ren.t 25 = 3 := rfl
    rw [Nat.zero_add] at hG
    simp [Builtin.zeroCells, Value.cells, e25]
    omega
end Go.Proofs.Ytpfaaglaeholbaa
/-
  slices.Concat of rows, and the count of fixed cells.
-/
namespace Go.Proofs.Ytpfaaglaeholbaa
open Go.RowKit


set_option maxHeartbeats 400000 in
theorem countAtLeast_big (v : Value) (r : List Int) (t : Int) (w : World) (hin : InRow w v r) (hn : r.length ≤ 1000) :
    Calls Try.prog 116 #[v, .int .i64 t] w fun e w' => e = .returned (.int .i64 (atLeast t r : Nat)) ∧ w = w' := by
  obtain ⟨a, c, rfl, hm, hp⟩ := hin
  unfold maxLen at hm
  have HP := hide fun h : r.length ≠ 0 => hp.resolve_left h
  obtain ⟨n, hnn⟩ : ∃ n, n = r.length := ⟨_, rfl⟩
  have HN := hide hnn
  rw [← hnn] at hm hn ⊢
  clear hp hnn
  go_enter Try.func116, Try.ntmps116
  go_wp2
  go_loop [5, 10] (fun s i => ∃ k : Nat, k ≤ n ∧ i = .int .i64 k ∧ s = .int .i64 (atLeast t (r.take k) : Nat)) (fun _ i => n - (intOf i).toNat)
  case atStart => exact ⟨0, Nat.zero_le _, rfl, rfl⟩
  case round =>
    obtain ⟨k, hk, rfl, rfl⟩ := hrel
    have hle := Nat.le_trans (atLeast_le t (r.take k)) (show (r.take k).length ≤ 1000 by rw [List.length_take]; have := HN.out; omega)
    by_cases hlt : k < n
    · obtain ⟨g, o, rfl, hg, hc⟩ := HP.out (by have := HN.out; omega)
      have hk' : k < r.length := by rw [← HN.out]; exact hlt
      have hx := hc k hk'
      have HAT := hide (atLeast_take t r k hk')
      obtain ⟨x, hxx⟩ : ∃ x, x = r[k] := ⟨_, rfl⟩
      obtain ⟨q, hq⟩ : ∃ q, q = atLeast t (r.take k) := ⟨_, rfl⟩
      rw [← hxx] at hx HAT
      rw [← hq] at hle HAT ⊢
      clear hxx hq hc
      by_cases htx : t ≤ x
      · have HAT2 : Hid (atLeast t (r.take (k + 1)) = q + 1) := hide (by rw [HAT.out, if_pos htx])
        clear HAT
        go_wp2
        go_round
        case rel => exact ⟨k + 1, by omega, by go_num, by rw [HAT2.out]; go_num⟩
        case measure => simp [intOf]; omega
      · have HAT2 : Hid (atLeast t (r.take (k + 1)) = q) := hide (by rw [HAT.out, if_neg htx]; rfl)
        clear HAT
        go_wp2
        go_round
        case rel => exact ⟨k + 1, by omega, by go_num, by rw [HAT2.out]⟩
        case measure => simp [intOf]; omega
    · have HE : Hid (r.take k = r) := hide (List.take_of_length_le (by have := HN.out; omega))
      rw [HE.out] at hle ⊢
      go_wp2
      go_ret
      exact ⟨rfl, rfl⟩
set_option maxHeartbeats 1000000 in
theorem concat_any (v : Value) (m : List (List Int)) (w : World) (hin : InMat w v m) (hn : m.length ≤ 5) (hr : ∀ q ∈ m, 0 < q.length ∧ q.length ≤ 5) :
    Calls Try.prog 117 #[v] w (IntsRes m.flatten w) := by
  obtain ⟨a, c, rfl, -, hp⟩ := hin
  have HP := hide fun (h : 0 < m.length) => hp.resolve_left (by omega)
  have hcm : ∀ k, k ≤ m.length → cellsM (m.take k) ≤ 5 * k := by
    intro k
    induction k with
    | zero => intro _; simp [cellsM]
    | succ k ih =>
      intro hk
      have h1 := ih (by omega)
      have h2 := (hr _ (List.getElem_mem (show k < m.length by omega))).2
      rw [cells_snoc m k (by omega)]; omega
  have HCM := hide hcm; have HR := hide hr
  obtain ⟨n, hnn⟩ : ∃ n, n = m.length := ⟨_, rfl⟩
  have HN := hide hnn
  rw [← hnn] at HCM hn ⊢
  clear hp hcm hr hnn
  go_enter Try.func117, Try.ntmps117
  go_wp2
  go_loop [3, 11] (fun s i => ∃ j t : Nat, j ≤ n ∧ i = .int .i64 j ∧ s = .int .i64 t ∧ cellsM (m.take j) = t ∧ t ≤ 25) (fun _ i => n - (intOf i).toNat)
  case atStart => exact ⟨0, 0, Nat.zero_le _, rfl, rfl, by simp [cellsM], by omega⟩
  case round =>
    obtain ⟨j, t, hj, rfl, rfl, ht, ht5⟩ := hrel
    have HT := hide ht
    clear ht
    by_cases hlt : j < n
    · obtain ⟨g, o, rfl, hg, hc⟩ := HP.out (by rw [← HN.out]; omega)
      obtain ⟨u, hx, hru⟩ := hc j (by rw [← HN.out]; exact hlt)
      have HS := hide (cells_snoc m j (by rw [← HN.out]; exact hlt))
      have HC1 := hide (HCM.out (j + 1) (by omega))
      obtain ⟨ua, uc, rfl, -, -⟩ := hru
      obtain ⟨k, hk⟩ : ∃ k, k = (m[j]'(by rw [← HN.out]; exact hlt)).length := ⟨_, rfl⟩
      rw [← hk] at hx HS
      have hk5 : t + k ≤ 25 := by have h1 := HS.out; have h2 := HC1.out; have h3 := HT.out; omega
      clear hc hk
      go_wp2
      go_round
      case rel => exact ⟨j + 1, t + k, by omega, by go_num, by go_num, by rw [HS.out, HT.out], hk5⟩
      case measure => simp [intOf]; omega
    · obtain rfl : j = n := by omega
      go_wp2_with fail
      refine (grow_nil t w (by omega)).mono ?_
      rintro e w1 ⟨u1, rfl, ho, hb⟩
      obtain ⟨xa, xc, rfl⟩ := own_slice ho
      have HO1 := hide ho; have HB1 := hide hb
      clear ho hb
      go_wp2
      go_loopw [6, 27] (fun s i w' => ∃ k : Nat, ∃ (q : Option Addr) (p cp : Nat), k ≤ j ∧ i = .int .i64 k ∧ s = .slice q p cp ∧ (p = (m.take k).flatten.length ∧ p ≤ 5 * k ∧ w'.ownsRow w.heap.size 3 1 (.slice q p cp) p (ints (m.take k).flatten)) ∧ Below w.heap.size w w') (fun _ i _ => j - (intOf i).toNat)
      case atStart => exact ⟨0, _, _, _, Nat.zero_le _, rfl, rfl, ⟨by simp, by simp, by simpa [ints] using HO1.out⟩, HB1.out⟩
      case round =>
        obtain ⟨k, q, p, cp, hk, rfl, rfl, ⟨hpl, hp5, hown⟩, hb⟩ := hrel
        have HPL := hide hpl; have HOW := hide hown; have HB2 := hide hb
        clear hpl hown hb
        by_cases hlk : k < j
        · obtain ⟨g, o, rfl, hg, hc⟩ := HP.out (by rw [← HN.out]; omega)
          have hkm : k < m.length := by rw [← HN.out]; exact hlk
          obtain ⟨u, hx, hru⟩ := hc k hkm
          have hx := below_cell HB2.out hg hx
          have hru := inRow_below hru HB2.out
          have HRR := hide (HR.out _ (List.getElem_mem hkm))
          have HTK := hide (show (m.take (k + 1)).flatten = (m.take k).flatten ++ m[k] by rw [List.take_succ_eq_append_getElem hkm, List.flatten_append, List.flatten_cons, List.flatten_nil, List.append_nil])
          obtain ⟨row, hrow⟩ : ∃ row, row = m[k] := ⟨_, rfl⟩
          rw [← hrow] at hru HRR HTK
          obtain ⟨ua, uc, rfl, -, hpp⟩ := hru
          obtain ⟨g2, o2, rfl, hg2, hc2⟩ := hpp.resolve_left (by have := HRR.out; omega)
          have HC2 := hide hc2
          have hbs : w.heap.size ≤ wr.heap.size := HB2.out.size
          have hr5 := HRR.out.2
          clear hc hrow hpp hc2
          go_wp2_with (at_builtin; (with_reducible refine wpList_appendRow 33 rfl HOW.out row g2 o2 uc (.int .i64 0) rfl _ _ rfl Try.underlying44 Try.infoInt rfl (by decide) rfl rfl HC2.out (by omega) hbs ?_); rintro v' w2 ho2 hb2 -; obtain ⟨ya, yc, rfl⟩ := own_slice ho2; have HO2 := hide ho2; have HB3 := hide (HB2.out.trans hb2); clear ho2 hb2)
          go_roundw
          case rel => exact ⟨k + 1, _, _, _, by omega, by go_num, rfl, ⟨by rw [HTK.out, List.length_append, HPL.out], by omega, by rw [HTK.out]; have := HO2.out; simpa [ints] using this⟩, HB3.out⟩
          case measure => simp [intOf]; omega
        · obtain rfl : k = j := by omega
          have HE := hide (show m.take k = m from List.take_of_length_le (by rw [← HN.out]; exact Nat.le_refl _))
          go_wp2
          go_ret
          have h1 := HPL.out
          have h2 := HOW.out
          rw [HE.out] at h1 h2
          subst h1
          exact ⟨_, rfl, h2, HB2.out⟩

set_option maxHeartbeats 400000 in
theorem countFixed_any (v : Value) (m : List (List Int)) (w : World) (hin : InMat w v m) (hn : m.length ≤ 5) (hr : ∀ q ∈ m, 0 < q.length ∧ q.length ≤ 5) :
    Calls Try.prog 75 #[v] w fun e w' => e = .returned (.int .i64 (atLeast 0 m.flatten : Nat)) ∧ Below w.heap.size w w' := by
  have HC := hide (concat_any v m w hin hn hr)
  have hfl : m.flatten.length ≤ 1000 := by
    have key : ∀ l : List (List Int), (∀ q ∈ l, q.length ≤ 5) → l.flatten.length ≤ 5 * l.length := by
      intro l
      induction l with
      | nil => intro _; simp
      | cons x l ih =>
        intro h
        have h3 := ih fun q hq => h q (List.mem_cons_of_mem _ hq)
        have h4 := h x (by simp)
        simp only [List.flatten_cons, List.length_append, List.length_cons]; omega
    have := key m fun q hq => (hr q hq).2
    omega
  obtain ⟨a, c, rfl, -, -⟩ := hin
  have HF := hide hfl
  generalize m.length = n at HC
  obtain ⟨fl, hfe⟩ : ∃ fl, fl = m.flatten := ⟨_, rfl⟩
  rw [← hfe] at HC HF ⊢
  clear hn hr hfl hfe
  go_enter Try.func75, Try.ntmps75
  go_wp2_with fail
  refine HC.out.mono ?_
  rintro e w1 ⟨u, rfl, ho, hb⟩
  have HB := hide hb; have HI := hide (inRow_own ho)
  clear ho hb
  go_wp2_with fail
  refine (countAtLeast_big u fl 0 w1 HI.out HF.out).mono ?_
  rintro e w2 ⟨rfl, rfl⟩
  go_wp2
  go_ret
  exact ⟨rfl, HB.out⟩
end Go.Proofs.Ytpfaaglaeholbaa
/-
  FixedCells of the program.
-/
namespace Go.Proofs.Ytpfaaglaeholbaa
open Go.RowKit Go.Shelf
attribute [local go_sem] Oper.semAt_some

def cellF (m : List (List Int)) (y x : Nat) : Int := (m.getD y []).getD x 0
def fixF (f : Nat → Nat → Int) (ms : List (List (List Int))) : Nat → Nat → Int := ms.foldl (fun f m => frF f (cellF m)) f
theorem fixF_snoc (f : Nat → Nat → Int) (ms : List (List (List Int))) (m : List (List Int)) : fixF f (ms ++ [m]) = frF (fixF f ms) (cellF m) := by unfold fixF; rw [List.foldl_append]; rfl
theorem fixF_free (f : Nat → Nat → Int) (y x : Nat) : ∀ (ms : List (List (List Int))) , f y x = -1 → fixF f ms y x = -1
  | [], h => h
  | m :: ms, h => by
    show fixF (frF f (cellF m)) ms y x = -1
    refine fixF_free _ y x ms ?_
    unfold frF; rw [h]; split <;> rfl
theorem fixF_or (y x : Nat) : ∀ (ms : List (List (List Int))) (f : Nat → Nat → Int), fixF f ms y x = f y x ∨ fixF f ms y x = -1
  | [], _ => .inl rfl
  | m :: ms, f => by
    rcases fixF_or y x ms (frF f (cellF m)) with h | h
    · by_cases e : f y x = cellF m y x
      · exact .inl (by show fixF (frF f (cellF m)) ms y x = _; rw [h, frF, if_pos e])
      · exact .inr (by show fixF (frF f (cellF m)) ms y x = _; rw [h, frF, if_neg e])
    · exact .inr h
/-- The cells that all images with these sums agree in; -1 elsewhere. -/
def fixedIm (r c : List Int) : List (List Int) := if existsOf r c = true then mkM r.length c.length (fixF (cellF (imgL leastCh r c)) (allL r c)) else []
theorem mkM_cellF {R C : Nat} {m : List (List Int)} (h1 : m.length = R) (h2 : ∀ q ∈ m, q.length = C) : m = mkM R C (cellF m) := by
  apply List.ext_getElem
  · rw [mkM_len, h1]
  · intro y hy1 hy2
    rw [mkM_at]
    apply List.ext_getElem
    · rw [rowF_len, h2 _ (List.getElem_mem hy1)]
    · intro x hx1 hx2
      rw [rowF_at, cellF, List.getD_eq_getElem?_getD, List.getD_eq_getElem?_getD, List.getElem?_eq_getElem hy1, Option.getD_some, List.getElem?_eq_getElem hx1]; rfl
theorem mkM_ext {R C : Nat} {f g : Nat → Nat → Int} (h : ∀ y x, y < R → x < C → f y x = g y x) : mkM R C f = mkM R C g := by
  apply List.ext_getElem
  · simp [mkM]
  · intro y h1 h2
    rw [mkM_at, mkM_at]
    rw [mkM_len] at h1
    apply List.ext_getElem
    · simp [rowF_len]
    · intro x h3 h4
      rw [rowF_len] at h3
      rw [rowF_at, rowF_at]; exact h y x h1 h3
theorem all_free {R C : Nat} {f0 : Nat → Nat → Int} {pre t : List (List (List Int))} (h0 : ∀ y x, y < R → x < C → f0 y x = 0 ∨ f0 y x = 1) (h : atLeast 0 (mkM R C (fixF f0 pre)).flatten = 0) : mkM R C (fixF f0 (pre ++ t)) = mkM R C (fixF f0 pre) := by
  refine mkM_ext fun y x hy hx => ?_
  have hneg : fixF f0 pre y x < 0 := by
    rw [atLeast, List.countP_eq_zero] at h
    have hmem : fixF f0 pre y x ∈ (mkM R C (fixF f0 pre)).flatten := by
      rw [List.mem_flatten]
      have hy' : y < (mkM R C (fixF f0 pre)).length := by rw [mkM_len]; exact hy
      have hx' : x < ((mkM R C (fixF f0 pre))[y]).length := by rw [mkM_at, rowF_len]; exact hx
      refine ⟨_, List.getElem_mem hy', ?_⟩
      have := List.getElem_mem hx'
      have e : ((mkM R C (fixF f0 pre))[y])[x] = fixF f0 pre y x := by simp [mkM_at, rowF_at]
      rw [e] at this; exact this
    have := h _ hmem
    simp only [decide_eq_true_eq] at this
    omega
  have hfree : fixF f0 pre y x = -1 := by
    rcases fixF_or y x pre f0 with e | e
    · rcases h0 y x hy hx with e2 | e2 <;> omega
    · exact e
  rw [hfree]
  unfold fixF
  rw [List.foldl_append]
  exact fixF_free _ y x t hfree
theorem least_cells {r c : List Int} (h : existsOf r c = true) : imgL leastCh r c = mkM r.length c.length (cellF (imgL leastCh r c)) ∧ ∀ y x, y < r.length → x < c.length → cellF (imgL leastCh r c) y x = 0 ∨ cellF (imgL leastCh r c) y x = 1 := by
  obtain ⟨hr, hc, -⟩ := sumsOk_yes (existsOf_sums h)
  obtain ⟨l, hl⟩ := all_first r c hr.2 hc (img_of_exists h)
  obtain ⟨h1, h2, h3⟩ := all_sound r c hr.2 hc (img_of_exists h) (imgL leastCh r c) (by rw [hl]; simp)
  refine ⟨mkM_cellF h1 h2, fun y x hy hx => ?_⟩
  exact h3.1 y x hy hx

theorem ownMat_putObj {W : World} {lo hi k : Nat} {v : Value} {m : List (List Int)} {o : Obj} (o' : Obj) (h : OwnMat W lo hi v m) (hk : W.heap[k]? = some o) (ho : o.isCells = false) : OwnMat (W.putObj k o') lo hi v m := by
  obtain ⟨vs, g1, g2, g3, g4⟩ := h
  exact ⟨vs, ownsRow_putObj g1 _ hk ho, g2, fun j hj => ⟨ownsRow_putObj (g3 j hj).1 _ hk ho, (g3 j hj).2⟩, g4⟩
/-- What is known while images are looked at: the box q, the cells in it. -/
def FixSt (lo q R C : Nat) (v : Value) (f0 : Nat → Nat → Int) (pre : List (List (List Int))) (A : Nat → Prop) (W : World) : Prop :=
  ((∀ k, A k ↔ lo ≤ k ∧ k ≤ q) ∧ lo ≤ q) ∧ Boxed W q 23 v ∧ OwnMat W lo q v (mkM R C (fixF f0 pre))
theorem fixSt_abid {lo q R C B : Nat} {v : Value} {f0 : Nat → Nat → Int} : AbidF B (FixSt lo q R C v f0) := by
  rintro pre A W W' ⟨⟨h1, h0⟩, h2, vs, g1, g2, g3, g4⟩ - - - - hk
  have hkk : ∀ k, k < W.heap.size → lo ≤ k → k ≤ q → W'.heap[k]? = W.heap[k]? := fun k h3 h4 h5 => hk k h3 (.inr ((h1 k).2 ⟨h4, h5⟩))
  exact ⟨⟨h1, h0⟩, (hkk q h2.lt h0 (Nat.le_refl _)).trans h2, vs, own_agr g1 fun k he => hkk k (g1.lt k he).2 (g1.lt k he).1 (Nat.le_of_lt (g2 k he)), g2, fun i hi => ⟨own_agr (g3 i hi).1 fun k he => hkk k ((g3 i hi).1.lt k he).2 ((g3 i hi).1.lt k he).1 (Nat.le_of_lt ((g3 i hi).2 k he)), (g3 i hi).2⟩, g4⟩

set_option maxRecDepth 100000 in
set_option maxHeartbeats 2000000 in
theorem implFixed_yes (va vb : Value) (r c : List Int) (w : World) (ha : RowC w va r) (hb : RowC w vb c) (h : existsOf r c = true) :
    Calls Try.prog 39 #[va, vb] w (MatRes (fixedIm r c) w) := by
  refine (callsIn_wide (n := 0)).1 ?_
  have HLI := hide (implLeast_any va vb r c w ha hb)
  rw [if_pos h, h] at HLI
  obtain ⟨hr5, hc5, -⟩ := sumsOk_yes (existsOf_sums h)
  obtain ⟨hlm, h01⟩ := least_cells h
  obtain ⟨f0, hf0⟩ : ∃ f0, f0 = cellF (imgL leastCh r c) := ⟨_, rfl⟩
  rw [hlm, ← hf0] at HLI
  have HANS := hide (show fixedIm r c = mkM r.length c.length (fixF f0 (allL r c)) by unfold fixedIm; rw [if_pos h, hf0])
  rw [← hf0] at h01
  have HS := hide (existsOf_sums h)
  have HIMG := hide fun m (hm : m ∈ allL r c) => all_sound r c hr5.2 hc5 (img_of_exists h) m hm
  have H01 := hide h01
  have HA := hide ha; have HB := hide hb.1
  obtain ⟨xa, ca, hva, -, -⟩ := ha.1
  obtain ⟨xb, cb, hvb, -, -⟩ := hb.1
  subst hva hvb
  have HIW := hide fun w' (hw : Below w.heap.size w w') => imagesWith_any _ _ r c w' (rowC_below HA.out hw) (inRow_below HB.out hw)
  obtain ⟨R, hR⟩ : ∃ R, R = r.length := ⟨_, rfl⟩
  obtain ⟨C, hCC⟩ : ∃ C, C = c.length := ⟨_, rfl⟩
  rw [← hR] at HA HLI HIW hr5 HANS HIMG H01 ⊢
  rw [← hCC] at HB HLI HIW hc5 HANS HIMG H01 ⊢
  rw [HANS.out]
  have HRC := hide (And.intro hr5 hc5)
  clear h ha hb hR hCC hlm h01 hf0 hr5 hc5
  refine callsIn_of_wp_marks Try.func39 rfl trivial ?_ rfl
  simp only [Try.ntmps39, List.size_toArray, List.length_cons, List.length_nil, Nat.reduceAdd, Nat.reduceSub, Array.replicate_succ, Array.replicate_zero, List.push_toArray, List.append_toArray, List.nil_append, List.cons_append]
  gi_wp2_with fail
  refine ⟨trivial, rfl, (callsIn_wide (n := 0)).2 (HLI.out.mono ?_)⟩
  rintro e w1 ⟨v, rfl, hown, hb1⟩
  obtain ⟨gv, cv, rfl⟩ := ownMat_some hown (by rw [mkM_len]; have := HRC.out; omega)
  rw [mkM_len] at hown ⊢
  have B1 := hide hb1
  have HOW := hide hown
  clear hown hb1
  gi_wp2_with fail
  obtain ⟨w2, hw2⟩ : ∃ w2, w2 = w1.alloc (.cells #[.slice (some ⟨gv, 0, none⟩) R cv] 23) := ⟨_, rfl⟩
  rw [← hw2]
  have HBX := hide (show Boxed w2 w1.heap.size 23 (.slice (some ⟨gv, 0, none⟩) R cv) by rw [hw2]; exact Boxed.new _ _ _)
  have hb12 : Below w1.heap.size w1 w2 := by rw [hw2]; exact (Below.refl _ w1).alloc (Nat.le_refl _) _
  have B2 := hide (B1.out.trans (hb12.mono B1.out.size))
  have HOW2 := hide (ownMat_below HOW.out hb12)
  have HS2 := hide (show w2.heap.size = w1.heap.size + 1 by rw [hw2]; simp)
  clear hw2 hb12
  refine ⟨trivial, rfl, (callsIn_wide (n := 0)).2 ((HIW.out w2 B2.out).mono ?_)⟩
  rintro e w3 ⟨rfl, hx1, hx2, hb3, hs3⟩
  have B3 := hide (B2.out.trans (hb3.mono B2.out.size))
  have HX := hide (And.intro hx1 hx2)
  have HS3 := hide hs3
  have HST := hide (show FixSt w.heap.size w1.heap.size R C (.slice (some ⟨gv, 0, none⟩) R cv) f0 [] (fun k => w.heap.size ≤ k ∧ k ≤ w1.heap.size) w3 from ⟨⟨fun k => Iff.rfl, B1.out.size⟩, (hb3.block _ HBX.out.lt).trans HBX.out, ownMat_below HOW2.out hb3⟩)
  clear hx1 hx2 hb3 hs3
  gi_wp2_with fail
  refine wp_rangeEach (gf := 110) (lb := #[.pointer (some ⟨w2.heap.size, 0, none⟩), .pointer (some ⟨w2.heap.size + 1, 0, none⟩)]) rfl (enters_of Try.func110 (by kernel_rfl) rfl)
    (L := allL r c) (Val := ValM) (fun v m lo G W W' h1 _ h3 => valM_agr h1 h3) (fun k => w.heap.size ≤ k ∧ k ≤ w1.heap.size) (fun k hk => by have h1 := HS2.out; have h2 := HS3.out; omega) (fun W4 hb4 hs4 => ?seq) rfl
    (FixSt w.heap.size w1.heap.size R C (.slice (some ⟨gv, 0, none⟩) R cv) f0)
    (fun cc pre A W => cc = .exit 0 ∧ FixSt w.heap.size w1.heap.size R C (.slice (some ⟨gv, 0, none⟩) R cv) f0 pre A W ∧ atLeast 0 (mkM R C (fixF f0 pre)).flatten = 0 ∧ Below w.heap.size w W) fixSt_abid (fun cc => ?hIx) (fun pre A W h k hk => by have h1 := h.2.1.lt; have h2 := ((h.1.1 k).1 hk).2; omega) HST.out
    (fun x => { tmps := #[.slice xa R ca, .slice xb C cb, undef, undef, .slice none 0 0, .pointer (some ⟨w1.heap.size, 0, none⟩), .bool true, x, .tuple #[.slice (some ⟨gv, 0, none⟩) R cv, .bool true], .slice xa R ca, .slice xb C cb, .tuple #[.slice (some ⟨gv, 0, none⟩) R cv, .bool true], .slice (some ⟨gv, 0, none⟩) R cv, .bool true, .bool true, .bool false, .slice xa R ca, .slice xb C cb, .func (.func 110) #[] #[.pointer (some ⟨w2.heap.size, 0, none⟩), .pointer (some ⟨w2.heap.size + 1, 0, none⟩)], x, undef, undef, undef, undef, undef, undef, undef], defers := [] }) ?assign ?body ?done ?stop
  case seq =>
    have h1 := HS2.out; have h2 := HS3.out
    refine iter_start HA.out HB.out HS.out (B3.out.trans (hb4.mono B3.out.size)) (fun k hk => ⟨hk.1, by omega⟩) (below_cell hb4 (by omega) HX.out.1) (below_cell hb4 (by omega) HX.out.2) (by omega) (by omega)
  case hIx => exact fun s A W W' h ho ht hp hs hk => ⟨h.1, fixSt_abid s A W W' h.2.1 ho ht hp hs hk, h.2.2.1, ⟨ho.trans h.2.2.2.os, ht.trans h.2.2.2.tape, hp.trans h.2.2.2.output, Nat.le_trans h.2.2.2.size hs, fun k hk2 => by rw [hk k (Nat.lt_of_lt_of_le hk2 h.2.2.2.size) (.inl (Nat.lt_of_lt_of_le hk2 B3.out.size))]; exact h.2.2.2.block k hk2⟩⟩
  case assign =>
    intro l2 x m lo G W K hv hK
    obtain ⟨ax, nx, cx, rfl⟩ : ∃ a n c, x = .slice a n c := by obtain ⟨vs, ⟨hv, -⟩, -⟩ := hv; obtain ⟨a, c, h⟩ := own_slice hv; exact ⟨a, _, c, h⟩
    clear hv
    gi_wp2
    exact hK
  case body =>
    intro l2 pre A m x lo G W hi hst hpre hval hlo hlo1 hAlo hG
    obtain ⟨ax, nx, cx, rfl⟩ : ∃ a n c, x = .slice a n c := by obtain ⟨vs, ⟨hv, -⟩, -⟩ := id hval; obtain ⟨a, c, h⟩ := own_slice hv; exact ⟨a, _, c, h⟩
    have hq := hAlo w1.heap.size ((hi.1.1 _).2 ⟨hi.1.2, Nat.le_refl _⟩)
    obtain ⟨hm1, hm2, -⟩ := HIMG.out m (hpre.subset (List.mem_append_right _ (List.mem_singleton_self m)))
    have hmo := valM_own hval fun k hk => (hG k hk).2
    rw [mkM_cellF hm1 hm2] at hmo
    have HFW := hide (freeWhere_any (.slice (some ⟨gv, 0, none⟩) R cv) (.slice ax nx cx) R C w.heap.size w1.heap.size lo W.heap.size (fixF f0 pre) (cellF m) W HRC.out.1 HRC.out.2 hi.2.2 hmo (.inl (by omega)))
    rw [← fixF_snoc] at HFW
    have HIFF := hide hi.1
    have HBW0 := hide (below_itStep B3.out (fun k hk => hk.1) hst)
    have HBW := hide hi.2.1
    have hcu := hi.2.1.cell
    have hwq : w1.heap.size < W.heap.size := hi.2.1.lt
    clear hi hst hpre hval hlo hlo1 hAlo hG hm1 hm2 hmo hq
    gi_wp2_with fail
    refine ⟨trivial, rfl, (show CallsIn Fence.wide 0 _ _ _ _ _ from (callsIn_wide (n := 0)).2 (HFW.out.mono ?_))⟩
    rintro e W2 ⟨⟨u, rfl⟩, ho2, hw2⟩
    have HW2 := hide hw2
    have HB2 := hide (show Boxed W2 w1.heap.size 23 (.slice (some ⟨gv, 0, none⟩) R cv) from (hw2.block _ HBW.out.lt (.inr (Nat.le_refl _))).trans HBW.out)
    have HO2 := hide ho2
    have hcu2 := HB2.out.cell
    have HCF := hide (countFixed_any (.slice (some ⟨gv, 0, none⟩) R cv) (mkM R C (fixF f0 (pre ++ [m]))) W2 (inMat_own ho2) (by rw [mkM_len]; exact HRC.out.1.2) (fun q hq => by
      obtain ⟨y, hy, rfl⟩ := List.getElem_of_mem hq
      rw [mkM_at, rowF_len]; have := HRC.out; omega))
    clear ho2 hw2 hcu
    gi_wp2_with fail
    refine ⟨trivial, rfl, (show CallsIn Fence.wide 0 _ _ _ _ _ from (callsIn_wide (n := 0)).2 (HCF.out.mono ?_))⟩
    rintro e W3 ⟨rfl, hb3⟩
    have HB3 := hide hb3
    have HST3 := hide (show FixSt w.heap.size w1.heap.size R C (.slice (some ⟨gv, 0, none⟩) R cv) f0 (pre ++ [m]) A W3 from ⟨HIFF.out, (hb3.block _ HB2.out.lt).trans HB2.out, ownMat_below HO2.out hb3⟩)
    have HGV := hide (show ItOnly A W W3 from ⟨hb3.os.trans HW2.out.os, hb3.tape.trans HW2.out.tape, hb3.output.trans HW2.out.output, Nat.le_trans HW2.out.size hb3.size, fun k hk hn => by
      rw [hb3.block k (Nat.lt_of_lt_of_le hk HW2.out.size)]
      exact HW2.out.block k hk (by
        by_cases h : k < w.heap.size
        · exact .inl h
        · exact .inr (Nat.le_of_not_lt fun h2 => hn ((HIFF.out.1 k).2 ⟨by omega, by omega⟩)))⟩)
    clear hb3 hcu2
    by_cases hz : atLeast 0 (mkM R C (fixF f0 (pre ++ [m]))).flatten = 0
    · have HZ := hide hz
      rw [hz]
      clear hz
      gi_wp2
      have hb0 : Below w.heap.size w W3 := ⟨HGV.out.os.trans HBW0.out.os, HGV.out.tape.trans HBW0.out.tape, HGV.out.output.trans HBW0.out.output, Nat.le_trans HBW0.out.size HGV.out.size, fun k hk => by rw [HGV.out.block k (Nat.lt_of_lt_of_le hk HBW0.out.size) (fun ha => by have := (HIFF.out.1 k).1 ha; omega)]; exact HBW0.out.block k hk⟩
      exact ⟨A, ⟨rfl, HST3.out, HZ.out, hb0⟩, HGV.out.size, fun k hk1 hk2 hn => HGV.out.block k hk2 hn, fun k hk => .inl hk⟩
    · obtain ⟨z, hzz⟩ : ∃ z, z = atLeast 0 (mkM R C (fixF f0 (pre ++ [m]))).flatten := ⟨_, rfl⟩
      rw [← hzz] at hz ⊢
      have hz2 : ((z : Int) == 0) = false := by simp; omega
      clear hzz
      gi_wp2
      exact ⟨A, HST3.out, HGV.out, fun k hk => .inl hk⟩
  case done =>
    intro A W hi hst _ hmk
    have hcu := hi.2.1.cell
    have HMK := hide hmk
    have HOW9 := hide hi.2.2
    have HBB := hide (below_itStep B3.out (fun k hk => hk.1) hst)
    have hsz : w1.heap.size < W.heap.size := hi.2.1.lt
    clear hi hst hmk
    gi_wp2
    refine ⟨by simp, .inl ⟨_, _, rfl, run_takeDeferred HMK.out, ?_⟩⟩
    exact ⟨_, results_tmp rfl _ _ _, _, rfl, ownMat_mono (ownMat_putObj _ HOW9.out HMK.out rfl) (Nat.le_refl _) (by simp; omega), below_putObj HBB.out B3.out.size _⟩
  case stop =>
    rintro cc pre A W ⟨t, ht⟩ ⟨rfl, hi, hz, hb0⟩ hA3 hmk
    have hcu := hi.2.1.cell
    have HMK := hide hmk
    have hall := all_free (t := t) H01.out hz
    rw [ht] at hall
    have HOW9 := hide (show OwnMat W w.heap.size w1.heap.size (.slice (some ⟨gv, 0, none⟩) R cv) (mkM R C (fixF f0 (allL r c))) by rw [hall]; exact hi.2.2)
    have HBB := hide hb0
    have hsz : w1.heap.size < W.heap.size := hi.2.1.lt
    clear hi hz hb0 hA3 hmk hall ht
    gi_wp2
    refine ⟨by simp, .inl ⟨_, _, rfl, run_takeDeferred HMK.out, ?_⟩⟩
    exact ⟨_, results_tmp rfl _ _ _, _, rfl, ownMat_mono (ownMat_putObj _ HOW9.out HMK.out rfl) (Nat.le_refl _) (by simp; omega), below_putObj HBB.out B3.out.size _⟩

set_option maxHeartbeats 400000 in
theorem implFixed_any (va vb : Value) (r c : List Int) (w : World) (ha : RowC w va r) (hb : RowC w vb c) :
    Calls Try.prog 39 #[va, vb] w (MatRes (fixedIm r c) w) := by
  cases h : existsOf r c with
  | true => exact implFixed_yes va vb r c w ha hb h
  | false =>
    have HLI := hide (implLeast_any va vb r c w ha hb)
    rw [h, if_neg (by decide)] at HLI
    rw [fixedIm, if_neg (by rw [h]; decide)]
    clear h
    refine (callsIn_wide (n := 0)).1 ?_
    refine callsIn_of_wp_marks Try.func39 rfl trivial ?_ rfl
    simp only [Try.ntmps39, List.size_toArray, List.length_cons, List.length_nil, Nat.reduceAdd, Nat.reduceSub, Array.replicate_succ, Array.replicate_zero, List.push_toArray, List.append_toArray, List.nil_append, List.cons_append]
    gi_wp2_with fail
    refine ⟨trivial, rfl, (callsIn_wide (n := 0)).2 (HLI.out.mono ?_)⟩
    rintro e w1 ⟨v, rfl, hown, hb1⟩
    obtain ⟨av, cv, rfl⟩ : ∃ a cp, v = .slice a 0 cp := by obtain ⟨vs, hv, -⟩ := hown; exact own_slice hv
    have B1 := hide hb1
    clear hown hb1
    gi_wp2
    exact ⟨_, results_tmp rfl _ _ _, _, rfl, ownMat_nil _ _ _, B1.out.alloc B1.out.size _⟩
end Go.Proofs.Ytpfaaglaeholbaa
/-
  slices.AppendSeq and Collect over all images, and AllImages of the program: each image in blocks of its own.
-/
namespace Go.Proofs.Ytpfaaglaeholbaa
open Go.RowKit Go.Shelf
attribute [local go_sem] Oper.semAt_some

/-- A list of images that the call owns, each in a range of blocks of its own, one range behind the other, the list's block in none of them. -/
def OwnIms (W : World) (lo : Nat) (v : Value) (ms : List (List (List Int))) : Prop :=
  ∃ (us : List Value) (a b : Nat → Nat), W.ownsRow lo 23 1 v ms.length us ∧
    (∀ i, (h : i < ms.length) → OwnMat W (a i) (b i) (us.getD i undef) ms[i] ∧ lo ≤ a i ∧ ∀ k, v.ownBlock = some k → k < a i ∨ b i ≤ k) ∧ ∀ i j, i < j → j < ms.length → b i ≤ a j
theorem sup_of (G : Nat → Prop) : ∀ n, (∀ k, G k → k < n) → ∃ b, (∀ k, G k → k < b) ∧ (b = 0 ∨ G (b - 1)) ∧ b ≤ n
  | 0, h => ⟨0, h, .inl rfl, Nat.le_refl _⟩
  | n + 1, h => by
    by_cases hg : G n
    · exact ⟨n + 1, h, .inr hg, Nat.le_refl _⟩
    · obtain ⟨b, h1, h2, h3⟩ := sup_of G n fun k hk => by
        have := h k hk
        rcases Nat.lt_or_ge k n with h4 | h4
        · exact h4
        · exact absurd (show G n by rw [show n = k by omega]; exact hk) hg
      exact ⟨b, h1, h2, by omega⟩
/-- What is known while the images are gathered: the box q, the slice in it, the images. -/
def Gath (q : Nat) (pre : List (List (List Int))) (A : Nat → Prop) (W : World) : Prop :=
  ∃ (v : Value) (us : List Value) (a b : Nat → Nat) (Gs : Nat → Nat → Prop), Boxed W q 45 v ∧ W.ownsRow q 23 1 v pre.length us ∧ (∀ k, v.ownBlock = some k → A k) ∧ A q ∧ (∀ k, A k → k < W.heap.size) ∧
    (∀ i, (h : i < pre.length) → ValM (us.getD i undef) pre[i] (a i) (Gs i) W ∧ (∀ k, Gs i k → A k ∧ a i ≤ k ∧ k < b i) ∧ (b i = 0 ∨ A (b i - 1)) ∧ q < a i ∧ ∀ k, v.ownBlock = some k → k < a i ∨ b i ≤ k) ∧
    ∀ i j, i < j → j < pre.length → b i ≤ a j
theorem gath_abid (q B : Nat) : AbidF B (Gath q) := by
  rintro pre A W W' ⟨v, us, a, b, Gs, h1, h2, h3, h4, h5, h6, h7⟩ - - - hs hk
  refine ⟨v, us, a, b, Gs, (hk q h1.lt (.inr h4)).trans h1, own_agr h2 fun k he => hk k (h5 k (h3 k he)) (.inr (h3 k he)), h3, h4, fun k ha => Nat.lt_of_lt_of_le (h5 k ha) hs, fun i hi => ?_, h7⟩
  obtain ⟨g1, g2, g3⟩ := h6 i hi
  exact ⟨valM_agr g1 fun k hg => hk k (h5 k (g2 k hg).1) (.inr (g2 k hg).1), g2, g3⟩
theorem gath_own {q : Nat} {pre : List (List (List Int))} {A : Nat → Prop} {W : World} (h : Gath q pre A W) : ∃ v, Boxed W q 45 v ∧ OwnIms W q v pre := by
  obtain ⟨v, us, a, b, Gs, h1, h2, h3, h4, h5, h6, h7⟩ := h
  refine ⟨v, h1, us, a, b, h2, fun i hi => ?_, h7⟩
  obtain ⟨g1, g2, g3, g4, g5⟩ := h6 i hi
  exact ⟨valM_own g1 fun k hk => (g2 k hk).2.2, by omega, g5⟩
/-- One more image. -/
theorem gath_push {q lo : Nat} {pre : List (List (List Int))} {m : List (List Int)} {A G : Nat → Prop} {W w1 W' : World} {v v' x : Value} {us : List Value} {a b : Nat → Nat} {Gs : Nat → Nat → Prop} {o : Obj} {vb : Value}
    (h1 : Boxed W q 45 v) (h2 : W.ownsRow q 23 1 v pre.length us) (h3 : ∀ k, v.ownBlock = some k → A k) (h4 : A q) (h5 : ∀ k, A k → k < W.heap.size)
    (h6 : ∀ i, (h : i < pre.length) → ValM (us.getD i undef) pre[i] (a i) (Gs i) W ∧ (∀ k, Gs i k → A k ∧ a i ≤ k ∧ k < b i) ∧ (b i = 0 ∨ A (b i - 1)) ∧ q < a i ∧ ∀ k, v.ownBlock = some k → k < a i ∨ b i ≤ k)
    (h7 : ∀ i j, i < j → j < pre.length → b i ≤ a j)
    (hval : ValM x m lo G W) (hA : ∀ k, A k → k < lo) (hG : ∀ k, G k → lo ≤ k ∧ k < W.heap.size)
    (ho : w1.ownsRow q 23 1 v' (pre.length + 1) (us ++ [x])) (hg : (W.alloc o).grownBy w1 v.ownBlock) (hl : v'.ownBlock = v.ownBlock ∨ v'.ownBlock = some (W.alloc o).heap.size) (hW' : W' = w1.setCell ⟨q, 0, none⟩ v') (hvb : vb = v') :
    ∃ A2, Gath q (pre ++ [m]) A2 W' ∧ ItGive A A2 G W W' := by
  subst hvb
  have hul : us.length = pre.length := by have := h2.1; omega
  have hb1 : Boxed w1 q 45 v := (h1.alloc o).kept hg ((h1.alloc o).not_row (by decide) (h2.alloc o))
  have hnr : some q ≠ vb.ownBlock := hb1.not_row (by decide) ho
  have hsz : W.heap.size + 1 ≤ w1.heap.size := by have := hg.size; simpa using this
  have hWs : W'.heap.size = w1.heap.size := by rw [hW']; simp [World.setCell]
  have hkeep : ∀ k, k < W.heap.size → k ≠ q → v.ownBlock ≠ some k → W'.heap[k]? = W.heap[k]? := fun k hk hq hv => by
    rw [hW', Below.heap_setCell _ _ _ _ hq, hg.block k (by simp; omega) (fun e => hv e.symm), Below.heap_alloc _ _ _ hk]
  obtain ⟨bn, hb2, hb3, hb4⟩ := sup_of G W.heap.size fun k hk => (hG k hk).2
  refine ⟨fun k => A k ∨ G k ∨ (W.heap.size ≤ k ∧ k < W'.heap.size), ⟨vb, us ++ [x], fun i => if i < pre.length then a i else lo, fun i => if i < pre.length then b i else bn, fun i => if i < pre.length then Gs i else G, ?_, ?_, ?_, .inl h4, ?_, ?_, ?_⟩, ⟨⟨?_, ?_, ?_, by omega, fun k hk hn => hkeep k hk (fun e => hn (e ▸ h4)) (fun e => hn (h3 k e))⟩, fun k hk => ?_⟩⟩
  · rw [hW']; exact hb1.set vb
  · rw [List.length_append, List.length_singleton]
    refine own_agr ho fun k hk => ?_
    rw [hW', Below.heap_setCell _ _ _ _ (fun e => hnr (by rw [hk, e]))]
  · intro k hk
    rcases hl with e | e
    · exact .inl (h3 k (by rw [← e]; exact hk))
    · rw [e] at hk
      have hk' := Option.some.inj hk
      have hlt := (ho.lt k (by rw [e]; exact hk)).2
      refine .inr (.inr ⟨?_, by omega⟩)
      have : (W.alloc o).heap.size = W.heap.size + 1 := by simp
      omega
  · intro k hk
    rcases hk with h | h | h
    · have := h5 k h; omega
    · have := (hG k h).2; omega
    · omega
  · intro i hi
    rw [List.length_append, List.length_singleton] at hi
    have hnew : ∀ k, vb.ownBlock = some k → v.ownBlock = some k ∨ W.heap.size ≤ k := fun k hk => by
      rcases hl with e | e
      · exact .inl (by rw [← e]; exact hk)
      · rw [e] at hk
        have hk' := Option.some.inj hk
        have : (W.alloc o).heap.size = W.heap.size + 1 := by simp
        exact .inr (by omega)
    by_cases e : i < pre.length
    · have e1 : (us ++ [x]).getD i undef = us.getD i undef := by simp [List.getD_eq_getElem?_getD, List.getElem?_append_left (show i < us.length by omega)]
      simp only [if_pos e, List.getElem_append_left e, e1]
      obtain ⟨g1, g2, g3, g4, g5⟩ := h6 i e
      refine ⟨valM_agr g1 fun k hk => hkeep k (h5 k (g2 k hk).1) ?_ ?_, fun k hk => ⟨.inl (g2 k hk).1, (g2 k hk).2⟩, g3.imp id .inl, g4, fun k hk => ?_⟩
      · have := (g2 k hk).2; omega
      · intro e2
        have := g5 k e2; have := (g2 k hk).2; omega
      · rcases hnew k hk with h | h
        · exact g5 k h
        · right
          rcases g3 with h0 | h0
          · omega
          · have := h5 _ h0; omega
    · obtain rfl : i = pre.length := by omega
      have e1 : (us ++ [x]).getD pre.length undef = x := by rw [← hul]; simp [List.getD_eq_getElem?_getD]
      simp only [if_neg e, e1]
      rw [show (pre ++ [m])[pre.length] = m by simp]
      refine ⟨valM_agr hval fun k hk => hkeep k (hG k hk).2 ?_ ?_, fun k hk => ⟨.inr (.inl hk), (hG k hk).1, hb2 k hk⟩, hb3.imp id (fun h => .inr (.inl h)), hA q h4, fun k hk => ?_⟩
      · have := (hG k hk).1; have := hA q h4; omega
      · intro e2
        have := hA k (h3 k e2); have := (hG k hk).1; omega
      · rcases hnew k hk with h | h
        · exact .inl (hA k (h3 k h))
        · exact .inr (by omega)
  · intro i j hij hj
    rw [List.length_append, List.length_singleton] at hj
    have hi : i < pre.length := by omega
    simp only [if_pos hi]
    by_cases e : j < pre.length
    · simp only [if_pos e]; exact h7 i j hij e
    · simp only [if_neg e]
      rcases (h6 i hi).2.2.1 with h | h
      · omega
      · have := hA _ h; omega
  · rw [hW']; exact hg.os
  · rw [hW']; exact hg.tape
  · rw [hW']; exact hg.output
  · rcases hk with h | h | h
    · exact .inl h
    · exact .inr (.inl h)
    · exact .inr (.inr h.1)
theorem ownIms_putObj {W : World} {lo k : Nat} {v : Value} {ms : List (List (List Int))} {o o' : Obj} (h : OwnIms W lo v ms) (hk : W.heap[k]? = some o) (ho : o.isCells = false) : OwnIms (W.putObj k o') lo v ms := by
  obtain ⟨us, a, b, h1, h2, h3⟩ := h
  refine ⟨us, a, b, ownsRow_putObj h1 _ hk ho, fun i hi => ?_, h3⟩
  obtain ⟨⟨vs, g1, g2, g3, g4⟩, g5⟩ := h2 i hi
  exact ⟨⟨vs, ownsRow_putObj g1 _ hk ho, g2, fun j hj => ⟨ownsRow_putObj (g3 j hj).1 _ hk ho, (g3 j hj).2⟩, g4⟩, g5⟩

set_option maxRecDepth 100000 in
set_option maxHeartbeats 1000000 in
theorem appendAll_any (va vb : Value) (r c : List Int) (w0 w : World) (b1 b2 : Nat) (ha : RowC w0 va r) (hb : InRow w0 vb c) (hs : sumsOk r c = true) (hW : Below w0.heap.size w0 w) (h1 : w.cell? ⟨b1, 0, none⟩ = some va) (h2 : w.cell? ⟨b2, 0, none⟩ = some vb) :
    Calls Try.prog 109 #[.slice none 0 0, .func (.func 110) #[] #[.pointer (some ⟨b1, 0, none⟩), .pointer (some ⟨b2, 0, none⟩)]] w fun e w' => ∃ v, e = .returned v ∧ OwnIms w' w.heap.size v (allL r c) ∧ Below w.heap.size w w' := by
  have HLEN := hide (show (allL r c).length ≤ 100000 by rw [← allIm_sums hs]; exact allIm_len r c)
  have HLT := hide (And.intro (World.block_lt_of_cell? w _ h1) (World.block_lt_of_cell? w _ h2))
  have HX := hide (And.intro h1 h2)
  have HA := hide ha; have HB := hide hb; have HS := hide hs; have HW := hide hW
  obtain ⟨i0, hi, hz0, hz1, hz2⟩ := info_parts Try.infoMat
  clear ha hb hs hW h1 h2
  refine (callsIn_wide (n := 0)).1 ?_
  refine callsIn_of_wp_marks Try.func109 rfl trivial ?_ rfl
  simp only [Try.ntmps109, List.size_toArray, List.length_cons, List.length_nil, Nat.reduceAdd, Nat.reduceSub, Array.replicate_succ, Array.replicate_zero, List.push_toArray, List.append_toArray, List.nil_append, List.cons_append]
  gi_wp2_with fail
  obtain ⟨w1, hw1⟩ : ∃ w1, w1 = w.alloc (.cells #[.slice none 0 0] 45) := ⟨_, rfl⟩
  rw [← hw1]
  have HBX := hide (show Boxed w1 w.heap.size 45 (.slice none 0 0) by rw [hw1]; exact Boxed.new _ _ _)
  have B1 := hide (show Below w.heap.size w w1 by rw [hw1]; exact (Below.refl _ w).alloc (Nat.le_refl _) _)
  have HS1 := hide (show w1.heap.size = w.heap.size + 1 by rw [hw1]; simp)
  clear hw1
  refine wp_rangeEach (gf := 110) (lb := #[.pointer (some ⟨b1, 0, none⟩), .pointer (some ⟨b2, 0, none⟩)]) rfl (enters_of Try.func110 (by kernel_rfl) rfl)
    (L := allL r c) (Val := ValM) (fun v m lo G W W' h1 _ h3 => valM_agr h1 h3) (fun k => k = w.heap.size) (fun k hk => by have h1 := HS1.out; omega) (fun W4 hb4 hs4 => ?seq) rfl
    (Gath w.heap.size) (fun _ _ _ _ => False) (gath_abid _ _) (fun _ _ _ _ _ h => h.elim) (fun pre A W h => by obtain ⟨v, us, a, b, Gs, -, -, -, -, h5, -⟩ := h; exact h5)
    ⟨_, [], fun _ => 0, fun _ => 0, fun _ _ => False, HBX.out, World.ownsRow_nil _ _ _ _, fun k hk => by simp [Value.ownBlock] at hk, rfl, fun k hk => by have h1 := HS1.out; omega, fun i hi => absurd hi (Nat.not_lt_zero _), fun i j _ hj => absurd hj (Nat.not_lt_zero _)⟩
    (fun x => { tmps := #[.slice none 0 0, .func (.func 110) #[] #[.pointer (some ⟨b1, 0, none⟩), .pointer (some ⟨b2, 0, none⟩)], .pointer (some ⟨w.heap.size, 0, none⟩), undef, .slice none 0 0, x, .func (.func 110) #[] #[.pointer (some ⟨b1, 0, none⟩), .pointer (some ⟨b2, 0, none⟩)], x, undef, undef, undef, undef, undef], defers := [] }) ?assign ?body ?done ?stop
  case seq =>
    have h1 := HS1.out
    exact iter_start HA.out HB.out HS.out (HW.out.trans ((B1.out.trans (hb4.mono B1.out.size)).mono HW.out.size)) (fun k hk => ⟨by have := HW.out.size; omega, by omega⟩) (below_cell hb4 (Nat.lt_of_lt_of_le HLT.out.1 B1.out.size) (below_cell B1.out HLT.out.1 HX.out.1)) (below_cell hb4 (Nat.lt_of_lt_of_le HLT.out.2 B1.out.size) (below_cell B1.out HLT.out.2 HX.out.2)) (fun e => by have := HLT.out.1; omega) (fun e => by have := HLT.out.2; omega)
  case assign =>
    intro l2 x m lo G W K hv hK
    obtain ⟨ax, nx, cx, rfl⟩ : ∃ a n c, x = .slice a n c := by obtain ⟨vs, ⟨hv, -⟩, -⟩ := hv; obtain ⟨a, c, h⟩ := own_slice hv; exact ⟨a, _, c, h⟩
    clear hv
    gi_wp2
    exact hK
  case body =>
    intro l2 pre A m x lo G W hgi hst hpre hval hlo hlo1 hAlo hG
    have hlen : pre.length + 1 ≤ 100000 := by have := hpre.length_le; have := HLEN.out; rw [List.length_append, List.length_singleton] at *; omega
    obtain ⟨v, us, a, b, Gs, h1, h2, h3, h4, h5, h6, h7⟩ := hgi
    obtain ⟨ax, nx, cx, rfl⟩ : ∃ a n c, x = .slice a n c := by obtain ⟨vs, ⟨hv, -⟩, -⟩ := id hval; obtain ⟨a, c, h⟩ := own_slice hv; exact ⟨a, _, c, h⟩
    obtain ⟨av, cv, rfl⟩ := own_slice h2
    have HG0 := hide fun (w1 : World) (vb : Value) (g1 : _) (g2 : _) (g3 : _) => gath_push (w1 := w1) (o := .cells #[.slice ax nx cx] 23) (vb := vb) h1 h2 h3 h4 h5 h6 h7 hval hAlo hG g1 g2 g3 rfl rfl
    have hqs : w.heap.size ≤ W.heap.size := by have := h1.lt; omega
    have H1 := hide h1
    have H2 := hide h2
    have hcu := h1.cell
    clear h1 h2 h3 h4 h5 h6 h7 hst hpre hval hlo hlo1 hAlo hG
    have HB1 := hide fun (w1 : World) (hg : (W.alloc (.cells #[.slice ax nx cx] 23)).grownBy w1 (Value.slice av pre.length cv).ownBlock) => show Boxed w1 w.heap.size 45 (.slice av pre.length cv) from (H1.out.alloc (.cells #[.slice ax nx cx] 23)).kept hg ((H1.out.alloc (.cells #[.slice ax nx cx] 23)).not_row (by decide) (H2.out.alloc (.cells #[.slice ax nx cx] 23)))
    have hz : (Value.slice ax nx cx).oneCell' = true := by simp [Value.oneCell']
    have hzz : ∀ u ∈ [Value.slice ax nx cx], u.oneCell' = true := by intro u hu; rw [List.mem_singleton.1 hu]; exact hz
    have hm1 : pre.length + 1 ≤ maxLen := by unfold maxLen; omega
    have hm2 : (pre.length + 1) * 24 ≤ 140737488355328 := by omega
    have hbs : w.heap.size ≤ (W.alloc (.cells #[.slice ax nx cx] 23)).heap.size := by simp; omega
    gi_wp2_with (gi_at_builtin; (refine wpListIn_append_own_at _ rfl _ _ 45 rfl w.heap.size 23 i0 (.slice none 0 0) 1 24 Try.underlying45 hi hz0 hz1 hz2 rfl (by decide) _ _ _ rfl (H2.out.alloc _) ⟨W.heap.size, 0, none⟩ 1 1 [.slice ax nx cx] rfl rfl (cell_one_new _ _ _) hzz hm1 hm2 hbs ?_; intro v' w1 hown' hgrow _ hlies; obtain ⟨g', cap', rfl⟩ := ownsRow_succ hown'; have hb1 := HB1.out w1 hgrow; have hc1 := hb1.cell; have hf1 := hb1.frozen))
    exact HG0.out _ _ hown' hgrow hlies
  case done =>
    intro A W hgi hst _ hmk
    obtain ⟨v, hbx, hown⟩ := gath_own hgi
    obtain ⟨av, cv, rfl⟩ : ∃ a cp, v = .slice a (allL r c).length cp := by obtain ⟨us, a, b, hv, -⟩ := hown; exact own_slice hv
    have hcu := hbx.cell
    have HMK := hide hmk
    have HOW := hide hown
    have HBB := hide (below_itStep B1.out (fun k hk => by omega) hst)
    clear hgi hst hmk hown hbx
    gi_wp2
    refine ⟨by simp, .inl ⟨_, _, rfl, run_takeDeferred HMK.out, ?_⟩⟩
    refine ⟨_, results_tmp rfl _ _ _, _, rfl, ?_, below_putObj HBB.out B1.out.size _⟩
    exact ownIms_putObj HOW.out HMK.out rfl
  case stop =>
    intro cc pre A W hpre h
    exact h.elim

theorem ownIms_below {W W' : World} {lo : Nat} {v : Value} {ms : List (List (List Int))} (h : OwnIms W lo v ms) (hb : Below W.heap.size W W') : OwnIms W' lo v ms := by
  obtain ⟨us, a, b, h1, h2, h3⟩ := h
  exact ⟨us, a, b, own_below h1 hb, fun i hi => ⟨ownMat_below (h2 i hi).1 hb, (h2 i hi).2⟩, h3⟩
theorem ownIms_base {W : World} {lo lo' : Nat} {v : Value} {ms : List (List (List Int))} (h : OwnIms W lo v ms) (hl : lo' ≤ lo) : OwnIms W lo' v ms := by
  obtain ⟨us, a, b, h1, h2, h3⟩ := h
  exact ⟨us, a, b, own_base h1 hl, fun i hi => ⟨(h2 i hi).1, Nat.le_trans hl (h2 i hi).2.1, (h2 i hi).2.2⟩, h3⟩
theorem ownIms_nil (W : World) (lo : Nat) : OwnIms W lo (.slice none 0 0) [] := ⟨[], fun _ => 0, fun _ => 0, World.ownsRow_nil _ _ _ _, fun _ h => absurd h (Nat.not_lt_zero _), fun _ _ _ h => absurd h (Nat.not_lt_zero _)⟩
set_option maxHeartbeats 400000 in
theorem collectAll_any (va vb : Value) (r c : List Int) (w0 w : World) (b1 b2 : Nat) (ha : RowC w0 va r) (hb : InRow w0 vb c) (hs : sumsOk r c = true) (hW : Below w0.heap.size w0 w) (h1 : w.cell? ⟨b1, 0, none⟩ = some va) (h2 : w.cell? ⟨b2, 0, none⟩ = some vb) :
    Calls Try.prog 71 #[.func (.func 110) #[] #[.pointer (some ⟨b1, 0, none⟩), .pointer (some ⟨b2, 0, none⟩)]] w fun e w' => ∃ v, e = .returned v ∧ OwnIms w' w.heap.size v (allL r c) ∧ Below w.heap.size w w' := by
  have HX := hide (appendAll_any va vb r c w0 w b1 b2 ha hb hs hW h1 h2)
  clear ha hb hs hW h1 h2
  go_enter Try.func71, Try.ntmps71
  go_wp2_with (go_at_call 109; refine HX.out.mono ?_; rintro e w' ⟨u, rfl, ho, hb⟩; obtain ⟨au, cu, rfl⟩ : ∃ a cp, u = .slice a (allL r c).length cp := by { obtain ⟨us, a, b, hv, -⟩ := id ho; exact own_slice hv }; have HO := hide (And.intro ho hb); clear ho hb)
  go_ret
  exact ⟨_, rfl, HO.out.1, HO.out.2⟩

/-- The call answers a list of images of its own, apart, and a bool. -/
def ImsRes2 (ms : List (List (List Int))) (b : Bool) (w : World) (e : Ending) (w' : World) : Prop := ∃ v, e = .returned (.tuple #[v, .bool b]) ∧ OwnIms w' w.heap.size v ms ∧ Below w.heap.size w w'
set_option maxHeartbeats 1000000 in
theorem implAllIm_any (va vb : Value) (r c : List Int) (w : World) (ha : RowC w va r) (hb : RowC w vb c) :
    Calls Try.prog 30 #[va, vb] w (ImsRes2 (allIm r c) (sumsOk r c) w) := by
  have HA := hide ha.1; have HB := hide hb.1
  cases h : sumsOk r c with
  | false =>
    rw [allIm_refused h]
    have H := hide h
    clear h ha hb
    go_enter Try.func30, Try.ntmps30
    go_wp2_with ((with_reducible refine (implSumsOk_any va vb r c _ HA.out HB.out).mono ?_); rw [H.out]; rintro e w1 ⟨rfl, b1⟩; have B1 := hide b1; clear b1)
    go_ret2
    exact ⟨_, rfl, ownIms_nil _ _, B1.out⟩
  | true =>
    rw [allIm_sums h]
    have H := hide h
    have HRC := hide ha
    obtain ⟨xa, ca, hva, -, -⟩ := ha.1
    obtain ⟨xb, cb, hvb, -, -⟩ := hb.1
    subst hva hvb
    have HIW := hide fun w' (hw : Below w.heap.size w w') => imagesWith_any _ _ r c w' (rowC_below HRC.out hw) (inRow_below HB.out hw)
    have HCO := hide fun w' b1 b2 (hw : Below w.heap.size w w') h1 h2 => collectAll_any _ _ r c w w' b1 b2 HRC.out HB.out h hw h1 h2
    obtain ⟨R, hR⟩ : ∃ R, R = r.length := ⟨_, rfl⟩
    obtain ⟨C, hCC⟩ : ∃ C, C = c.length := ⟨_, rfl⟩
    rw [← hR] at HA HRC HIW HCO ⊢
    rw [← hCC] at HB HIW HCO ⊢
    clear h ha hb hR hCC
    go_enter Try.func30, Try.ntmps30
    go_wp2_with ((with_reducible refine (implSumsOk_any _ _ r c _ HA.out HB.out).mono ?_); rw [H.out]; rintro e w1 ⟨rfl, b1⟩; have B1 := hide b1; clear b1)
    refine (HIW.out _ B1.out).mono ?_
    rintro e w2 ⟨rfl, hx1, hx2, hb2, -⟩
    have B2 := hide (B1.out.trans (hb2.mono B1.out.size))
    have HCO2 := hide (HCO.out _ _ _ B2.out hx1 hx2)
    clear hx1 hx2 hb2
    go_wp2_with fail
    refine HCO2.out.mono ?_
    rintro e w3 ⟨u, rfl, ho, hb3⟩
    obtain ⟨au, cu, rfl⟩ : ∃ a cp, u = .slice a (allL r c).length cp := by obtain ⟨us, a, b, hv, -⟩ := id ho; exact own_slice hv
    have HO := hide (And.intro (ownIms_base ho B2.out.size) (B2.out.trans (hb3.mono B2.out.size)))
    clear ho hb3
    go_wp2
    go_ret2
    exact ⟨_, rfl, HO.out.1, HO.out.2⟩
end Go.Proofs.Ytpfaaglaeholbaa
