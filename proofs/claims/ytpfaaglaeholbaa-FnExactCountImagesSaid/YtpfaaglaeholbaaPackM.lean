/-
  Texts of this claim, one behind the other: AllQ, CountI, LawsCI.
-/
import Derived.Test.YtpfaaglaeholbaaPackL
import Derived.Test.YtpfaaglaeholbaaPackC
import Derived.Test.YtpfaaglaeholbaaPackD
/-
  AllImages and CountImages of the model.
-/
namespace Go.Proofs.Ytpfaaglaeholbaa
open Go.RowKit

/-- All images with given sums; none where the sums are refused. -/
def allIm (r c : List Int) : List (List (List Int)) := if existsOf r c = true then allL r c else []
def countIm (r c : List Int) : Int := if sumsOk r c = true then ((allIm r c).length : Int) else -1
theorem allL_none {r c : List Int} (h : sumsOk r c = true) (he : existsOf r c = false) : allL r c = [] := by
  obtain ⟨hr, hc, -⟩ := sumsOk_yes h
  cases r with
  | nil => simp at hr
  | cons a r =>
    rw [allL, List.flatMap_eq_nil_iff]
    intro row hrow
    cases hb : restB r (subL c row) with
    | false => simp
    | true =>
      exfalso
      have h1 := (restB_iff (by simp at hr; omega) (by rw [subL_len]; exact hc)).1 hb
      have h2 := exists_of_img hr hc ((hasImg_cons a r c).2 ⟨row, (mem_rowsL _ _ _).1 hrow, h1⟩)
      rw [he] at h2; cases h2
theorem allIm_sums {r c : List Int} (h : sumsOk r c = true) : allIm r c = allL r c := by
  unfold allIm
  cases he : existsOf r c with
  | true => simp
  | false => simp [allL_none h he]
theorem allIm_refused {r c : List Int} (h : sumsOk r c = false) : allIm r c = [] := by
  unfold allIm
  rw [if_neg]
  intro he
  rw [existsOf_sums he] at h; cases h
theorem allIm_len (r c : List Int) : (allIm r c).length ≤ 100000 := by
  unfold allIm
  split
  · rename_i h
    obtain ⟨hr, hc, -⟩ := sumsOk_yes (existsOf_sums h)
    refine Nat.le_trans (allL_len r c hc.2) ?_
    exact Nat.le_trans (Nat.pow_le_pow_right (by decide) hr.2) (by decide)
  · simp
/-- The call answers a list of lists of lists of its own, and a bool. -/
def ImgsRes2 (ms : List (List (List Int))) (b : Bool) (w : World) (e : Ending) (w' : World) : Prop := ∃ v, e = .returned (.tuple #[v, .bool b]) ∧ OwnImgs w' w.heap.size v ms ∧ Below w.heap.size w w'
theorem ownImgs_nil (w : World) (lo : Nat) : OwnImgs w lo (.slice none 0 0) [] := ⟨[], World.ownsRow_nil _ _ _ _, fun _ h => absurd h (Nat.not_lt_zero _)⟩

set_option maxHeartbeats 400000 in
theorem specAllIm_any (va vb : Value) (r c : List Int) (w : World) (ha : RowC w va r) (hb : RowC w vb c) :
    Calls Try.prog 28 #[va, vb] w (ImgsRes2 (allIm r c) (sumsOk r c) w) := by
  have HA := hide ha.1; have HB := hide hb.1
  cases h : sumsOk r c with
  | false =>
    rw [allIm_refused h]
    have H := hide h
    clear h ha hb
    go_enter Try.func28, Try.ntmps28
    go_wp2_with ((with_reducible refine (specSumsOk_any va vb r c _ HA.out HB.out).mono ?_); rw [H.out]; rintro e w1 ⟨rfl, b1⟩; have B1 := hide b1; clear b1)
    go_ret2
    exact ⟨_, rfl, ownImgs_nil _ _, B1.out⟩
  | true =>
    have H := hide h
    cases he : existsOf r c with
    | false =>
      rw [allIm_sums h, allL_none h he]
      have HE := hide he
      clear h he ha hb
      go_enter Try.func28, Try.ntmps28
      go_wp2_with (first | ((with_reducible refine (specSumsOk_any va vb r c _ HA.out HB.out).mono ?_); rw [H.out]; rintro e w1 ⟨rfl, b1⟩; have B1 := hide b1; clear b1) | ((with_reducible refine (specExists_any va vb r c _ (inRow_below HA.out B1.out) (inRow_below HB.out B1.out)).mono ?_); rw [HE.out]; rintro e w2 ⟨rfl, b2⟩; have B2 := hide (B1.out.trans (b2.mono B1.out.size)); clear b2))
      go_ret2
      exact ⟨_, rfl, ownImgs_nil _ _, B2.out⟩
    | true =>
      rw [allIm_sums h]
      have HE := hide he
      have HALL := hide fun (w' : World) (hw : Below w.heap.size w w') => specAll_start r c va vb w w' ha hb.1 he hw
      obtain ⟨xa, ca, hva, -, -⟩ := ha.1
      obtain ⟨xb, cb, hvb, -, -⟩ := hb.1
      subst hva hvb
      obtain ⟨R, hR⟩ : ∃ R, R = r.length := ⟨_, rfl⟩
      obtain ⟨C, hC⟩ : ∃ C, C = c.length := ⟨_, rfl⟩
      rw [← hR] at HA HALL ⊢
      rw [← hC] at HB HALL ⊢
      clear h he ha hb hR hC
      go_enter Try.func28, Try.ntmps28
      go_wp2_with (first | ((with_reducible refine (specSumsOk_any _ _ r c _ HA.out HB.out).mono ?_); rw [H.out]; rintro e w1 ⟨rfl, b1⟩; have B1 := hide b1; clear b1) | ((with_reducible refine (specExists_any _ _ r c _ (inRow_below HA.out B1.out) (inRow_below HB.out B1.out)).mono ?_); rw [HE.out]; rintro e w2 ⟨rfl, b2⟩; have B2 := hide (B1.out.trans (b2.mono B1.out.size)); clear b2) | ((with_reducible refine (HALL.out _ B2.out).mono ?_); rintro e w3 ⟨u, rfl, ⟨us, hv, hm⟩, hb3⟩; obtain ⟨au, cu, rfl⟩ := own_slice hv; have HR3 := hide (And.intro (show OwnImgs _ _ _ _ from ⟨us, hv, hm⟩) hb3); clear hv hm hb3))
      go_ret2
      exact ⟨_, rfl, HR3.out.1, HR3.out.2⟩

set_option maxHeartbeats 400000 in
theorem specCount_im (va vb : Value) (r c : List Int) (w : World) (ha : RowC w va r) (hb : RowC w vb c) :
    Calls Try.prog 36 #[va, vb] w fun e w' => e = .returned (.int .i64 (countIm r c)) ∧ Below w.heap.size w w' := by
  have HALL := hide (specAllIm_any va vb r c w ha hb)
  have HLEN := hide (allIm_len r c)
  have HCI := hide (show countIm r c = if sumsOk r c = true then ((allIm r c).length : Int) else -1 from rfl)
  obtain ⟨ms, hms⟩ : ∃ ms, ms = allIm r c := ⟨_, rfl⟩
  obtain ⟨ok, hok⟩ : ∃ ok, ok = sumsOk r c := ⟨_, rfl⟩
  obtain ⟨ans, hans⟩ : ∃ ans, ans = countIm r c := ⟨_, rfl⟩
  rw [← hans] at HCI ⊢
  rw [← hms, ← hok] at HALL HCI
  rw [← hms] at HLEN
  clear hms hok hans ha hb
  go_enter Try.func36, Try.ntmps36
  go_wp2_with fail
  refine HALL.out.mono ?_
  rintro e w2 ⟨u, rfl, ⟨us, hv, -⟩, hb2⟩
  obtain ⟨au, cu, rfl⟩ := own_slice hv
  have HB2 := hide hb2
  clear hv hb2
  cases ok with
  | false =>
    go_wp2
    go_ret
    exact ⟨by rw [HCI.out]; rfl, HB2.out⟩
  | true =>
    go_wp2
    go_ret
    exact ⟨by rw [HCI.out]; rfl, HB2.out⟩
end Go.Proofs.Ytpfaaglaeholbaa
/-
  CountImages of the program: a count while all images are handed on.
-/
namespace Go.Proofs.Ytpfaaglaeholbaa
open Go.RowKit Go.Shelf
attribute [local go_sem] Oper.semAt_some

theorem below_itStep {w W W' : World} {A A' : Nat → Prop} (hb : Below w.heap.size w W) (hA : ∀ k, A k → w.heap.size ≤ k) (h : ItStep A A' W W') : Below w.heap.size w W' :=
  ⟨h.1.os.trans hb.os, h.1.tape.trans hb.tape, h.1.output.trans hb.output, Nat.le_trans hb.size h.1.size, fun k hk => by rw [h.1.block k (Nat.lt_of_lt_of_le hk hb.size) (fun ha => by have := hA k ha; omega)]; exact hb.block k hk⟩
theorem below_putObj {B : Nat} {w W : World} {k : Nat} (h : Below B w W) (hk : B ≤ k) (o : Obj) : Below B w (W.putObj k o) :=
  ⟨h.os, h.tape, h.output, by simpa using h.size, fun i hi => by rw [World.putObj_heap_other (by omega)]; exact h.block i hi⟩
theorem iter_start {r c : List Int} {va vb : Value} {w W : World} {b1 b2 : Nat} {A : Nat → Prop} (ha : RowC w va r) (hb : InRow w vb c) (hs : sumsOk r c = true) (hW : Below w.heap.size w W) (hA : ∀ k, A k → w.heap.size ≤ k ∧ k < W.heap.size)
    (h1 : W.cell? ⟨b1, 0, none⟩ = some va) (h2 : W.cell? ⟨b2, 0, none⟩ = some vb) (hb1 : ¬ A b1) (hb2 : ¬ A b2) :
    EachC Try.prog 110 #[.pointer (some ⟨b1, 0, none⟩), .pointer (some ⟨b2, 0, none⟩)] (allL r c) ValM W A := by
  obtain ⟨hr5, hc5, -, hcb, -⟩ := sumsOk_yes hs
  refine iter_any r c b1 b2 va vb A W (safe_and (safe_cell h1 hb1) (safe_and (safe_cell h2 hb2) (safe_and (fun A' W' h => rowC_below ha (below_itStep hW (fun k hk => (hA k hk).1) h)) (fun A' W' h => inRow_below hb (below_itStep hW (fun k hk => (hA k hk).1) h))))) (fun k hk => (hA k hk).2) hr5.2 hc5 ⟨hc5.2, fun x hx => ?_⟩
  have := noBad_at hcb hx
  rw [List.getD_eq_getElem?_getD, List.getElem?_eq_getElem hx, Option.getD_some]
  omega

set_option maxRecDepth 100000 in
set_option maxHeartbeats 1000000 in
theorem implCount_im (va vb : Value) (r c : List Int) (w : World) (ha : RowC w va r) (hb : RowC w vb c) :
    Calls Try.prog 37 #[va, vb] w fun e w' => e = .returned (.int .i64 (countIm r c)) ∧ Below w.heap.size w w' := by
  have HA := hide ha.1; have HB := hide hb.1
  refine (callsIn_wide (n := 0)).1 ?_
  cases h : sumsOk r c with
  | false =>
    have HC := hide (show countIm r c = -1 by unfold countIm; rw [h]; rfl)
    have H := hide h
    rw [HC.out]
    clear h ha hb
    refine callsIn_of_wp_marks Try.func37 rfl trivial ?_ rfl
    simp only [Try.ntmps37, List.size_toArray, List.length_cons, List.length_nil, Nat.reduceAdd, Nat.reduceSub, Array.replicate_succ, Array.replicate_zero, List.push_toArray, List.append_toArray, List.nil_append, List.cons_append]
    gi_wp2_with fail
    refine ⟨trivial, rfl, (callsIn_wide (n := 0)).2 ((implSumsOk_any va vb r c _ HA.out HB.out).mono ?_)⟩
    rw [H.out]
    rintro e w1 ⟨rfl, b1⟩
    have B1 := hide b1
    clear b1
    gi_wp2
    exact ⟨_, results_tmp rfl _ _ _, rfl, B1.out⟩
  | true =>
    have HC := hide (show countIm r c = ((allL r c).length : Int) by unfold countIm; rw [h, allIm_sums h]; rfl)
    have HLEN := hide (show (allL r c).length ≤ 100000 by rw [← allIm_sums h]; exact allIm_len r c)
    have H := hide h
    rw [HC.out]
    have HRC := hide ha
    obtain ⟨xa, ca, hva, -, -⟩ := ha.1
    obtain ⟨xb, cb, hvb, -, -⟩ := hb.1
    subst hva hvb
    have HIW := hide fun w' (hw : Below w.heap.size w w') => imagesWith_any _ _ r c w' (rowC_below HRC.out hw) (inRow_below HB.out hw)
    obtain ⟨R, hR⟩ : ∃ R, R = r.length := ⟨_, rfl⟩
    obtain ⟨C, hCC⟩ : ∃ C, C = c.length := ⟨_, rfl⟩
    rw [← hR] at HA HRC HIW ⊢
    rw [← hCC] at HB HIW ⊢
    clear h ha hb hR hCC
    refine callsIn_of_wp_marks Try.func37 rfl trivial ?_ rfl
    simp only [Try.ntmps37, List.size_toArray, List.length_cons, List.length_nil, Nat.reduceAdd, Nat.reduceSub, Array.replicate_succ, Array.replicate_zero, List.push_toArray, List.append_toArray, List.nil_append, List.cons_append]
    gi_wp2_with fail
    refine ⟨trivial, rfl, (callsIn_wide (n := 0)).2 ((implSumsOk_any _ _ r c _ HA.out HB.out).mono ?_)⟩
    rw [H.out]
    rintro e w1 ⟨rfl, b1⟩
    have B1 := hide b1
    clear b1
    gi_wp2_with fail
    obtain ⟨w2, hw2⟩ : ∃ w2, w2 = w1.alloc (.cells #[.int .i64 0] 3) := ⟨_, rfl⟩
    rw [← hw2]
    have HBX := hide (show Boxed w2 w1.heap.size 3 (.int .i64 0) by rw [hw2]; exact Boxed.new _ _ _)
    have B2 := hide (show Below w.heap.size w w2 by rw [hw2]; exact B1.out.alloc B1.out.size _)
    have HS2 := hide (show w2.heap.size = w1.heap.size + 1 by rw [hw2]; simp)
    clear hw2
    refine ⟨trivial, rfl, (callsIn_wide (n := 0)).2 ((HIW.out w2 B2.out).mono ?_)⟩
    rintro e w3 ⟨rfl, hx1, hx2, hb3, hs3⟩
    have B3 := hide (B2.out.trans (hb3.mono B2.out.size))
    have HX := hide (And.intro hx1 hx2)
    have HS3 := hide hs3
    have HBX3 := hide (show Boxed w3 w1.heap.size 3 (.int .i64 0) from (hb3.block _ HBX.out.lt).trans HBX.out)
    clear hx1 hx2 hb3 hs3
    gi_wp2_with fail
    refine wp_rangeEach (gf := 110) (lb := #[.pointer (some ⟨w2.heap.size, 0, none⟩), .pointer (some ⟨w2.heap.size + 1, 0, none⟩)]) rfl (enters_of Try.func110 (by kernel_rfl) rfl)
      (L := allL r c) (Val := ValM) (fun v m lo G W W' h1 _ h3 => valM_agr h1 h3) (fun k => k = w1.heap.size) (fun k hk => by have h1 := HS2.out; have h2 := HS3.out; omega) (fun W4 hb4 hs4 => ?seq) rfl
      (fun pre A W => (∀ k, A k ↔ k = w1.heap.size) ∧ Boxed W w1.heap.size 3 (.int .i64 pre.length))
      (fun _ _ _ _ => False) ?hI (fun _ _ _ _ _ h => h.elim) (fun pre A W h k hk => by rw [(h.1 k).1 hk]; exact h.2.lt) ⟨fun k => Iff.rfl, HBX3.out⟩
      (fun x => { tmps := #[.slice xa R ca, .slice xb C cb, undef, undef, .int .i64 0, .pointer (some ⟨w1.heap.size, 0, none⟩), .slice xa R ca, .slice xb C cb, .bool true, .bool false, .slice xa R ca, .slice xb C cb, .func (.func 110) #[] #[.pointer (some ⟨w2.heap.size, 0, none⟩), .pointer (some ⟨w2.heap.size + 1, 0, none⟩)], x, undef, undef, undef], defers := [] }) ?assign ?body ?done ?stop
    case seq =>
      have h1 := HS2.out; have h2 := HS3.out
      refine iter_start HRC.out HB.out H.out (B3.out.trans (hb4.mono B3.out.size)) (fun k hk => ⟨by have := B1.out.size; omega, by omega⟩) (below_cell hb4 (by omega) HX.out.1) (below_cell hb4 (by omega) HX.out.2) (by omega) (by omega)
    case hI => exact fun s A W W' h _ _ _ _ hk => ⟨h.1, by
      have h1 := HS2.out; have h2 := HS3.out
      exact (hk _ h.2.lt (.inl (by omega))).trans h.2⟩
    case assign =>
      intro l2 x m lo G W K _ hK
      gi_wp2
      simp
      exact hK
    case body =>
      intro l2 pre A m v lo G W hi hst hpre hval hlo hlo1 hAlo hG
      have hlen : pre.length + 1 ≤ 100000 := by have := hpre.length_le; have := HLEN.out; rw [List.length_append, List.length_singleton] at *; omega
      have HA1 := hide hi.1
      have HBW := hide hi.2
      have hc1 := hi.2.cell
      have hf1 := hi.2.frozen
      clear hi hst hpre hval hlo hlo1 hAlo hG
      gi_wp2
      refine ⟨A, ⟨HA1.out, ?_⟩, ⟨⟨rfl, rfl, rfl, by simp [World.setCell], fun k hk hn => Below.heap_setCell _ _ _ _ (fun e => hn ((HA1.out k).2 e))⟩, fun k hk => .inl hk⟩⟩
      have := HBW.out.set (.int .i64 ((pre.length : Int) + 1))
      rw [List.length_append, List.length_singleton, show ((pre.length + 1 : Nat) : Int) = (pre.length : Int) + 1 by omega]
      exact this
    case done =>
      intro A W hi hst _ hmk
      have hc1 := hi.2.cell
      have HMK := hide hmk
      have hB := below_itStep B3.out (fun k hk => by have := B1.out.size; omega) hst
      have HBB := hide hB
      clear hi hst hmk hB
      gi_wp2
      refine ⟨by simp, .inl ⟨_, _, rfl, run_takeDeferred HMK.out, ?_⟩⟩
      exact ⟨_, results_tmp rfl _ _ _, rfl, below_putObj HBB.out B3.out.size _⟩
    case stop =>
      intro cc pre A W hpre h
      exact h.elim
end Go.Proofs.Ytpfaaglaeholbaa
/-
  The exact law on CountImages, out of the contracts.
-/
namespace Go.Proofs.Ytpfaaglaeholbaa
open Go.RowKit
set_option linter.unusedVariables false

set_option maxRecDepth 100000 in
set_option maxHeartbeats 1000000 in
theorem lawCountImages_gen (a0 : Option Addr) (n0 c0 : Nat) (r0 : List Int) (a1 : Option Addr) (n1 c1 : Nat) (r1 : List Int) (w : World) (hin0 : InRow w (.slice a0 n0 c0) r0) (hin1 : InRow w (.slice a1 n1 c1) r1) (val : Int)
    (hs : r0.length ≤ 1048576 → r1.length ≤ 1048576 → ∀ (v0 : Value) (v1 : Value) (w : World), RowC w v0 r0 → RowC w v1 r1 → Calls Try.prog 36 #[v0, v1] w fun e w' => e = .returned (.int .i64 val) ∧ Below w.heap.size w w')
    (hi : r0.length ≤ 1048576 → r1.length ≤ 1048576 → ∀ (v0 : Value) (v1 : Value) (w : World), RowC w v0 r0 → RowC w v1 r1 → Calls Try.prog 37 #[v0, v1] w fun e w' => e = .returned (.int .i64 val) ∧ Below w.heap.size w w') :
    Calls Try.prog 7 #[.slice a0 n0 c0, .slice a1 n1 c1] w fun e w' => e = .returned (.bool true) ∧ Below w.heap.size w w' := by
  have HI0 := hide hin0
  obtain ⟨a', c', he, hm0, -⟩ := hin0
  cases he
  unfold maxLen at hm0
  have HI1 := hide hin1
  obtain ⟨a', c', he, hm1, -⟩ := hin1
  cases he
  unfold maxLen at hm1
  by_cases hr0 : 1048576 < r0.length
  · clear hs hi
    obtain ⟨R0, hR0⟩ : ∃ R0, R0 = r0.length := ⟨_, rfl⟩
    obtain ⟨R1, hR1⟩ : ∃ R1, R1 = r1.length := ⟨_, rfl⟩
    rw [← hR0] at HI0 hm0 hr0 ⊢
    rw [← hR1] at HI1 hm1 ⊢
    clear hR0 hR1
    go_enter Try.func7, Try.ntmps7
    go_wp2
    go_ret
    exact ⟨rfl, Below.refl _ _⟩
  · by_cases hr1 : 1048576 < r1.length
    · clear hs hi
      obtain ⟨R0, hR0⟩ : ∃ R0, R0 = r0.length := ⟨_, rfl⟩
      obtain ⟨R1, hR1⟩ : ∃ R1, R1 = r1.length := ⟨_, rfl⟩
      rw [← hR0] at HI0 hm0 hr0 ⊢
      rw [← hR1] at HI1 hm1 hr1 ⊢
      clear hR0 hR1
      go_enter Try.func7, Try.ntmps7
      go_wp2
      go_ret
      exact ⟨rfl, Below.refl _ _⟩
    · have HS := hide (hs (by omega) (by omega)); have HM := hide (hi (by omega) (by omega))
      have HR0 : Hid (r0.length ≤ 2000000) := hide (by omega)
      have HR1 : Hid (r1.length ≤ 2000000) := hide (by omega)
      clear hs hi
      go_enter Try.func7, Try.ntmps7
      go_wp2_with fail
      refine (toIntS_any _ r0 _ HR0.out HI0.out).mono ?_
      rintro e w1 ⟨ps0, rfl, ho, hb⟩
      have Ps0_1 := hide (rowC_own ho); have HB1 := hide (hb); clear ho hb
      go_wp2_with fail
      refine (toIntS_any _ r1 _ HR1.out (inRow_below HI1.out HB1.out)).mono ?_
      rintro e w2 ⟨ps1, rfl, ho, hb⟩
      have Ps0_2 := hide (rowC_below Ps0_1.out hb); have Ps1_2 := hide (rowC_own ho); have HB2 := hide (HB1.out.trans (hb.mono HB1.out.size)); clear ho hb
      go_wp2_with fail
      refine (HS.out ps0 ps1 _ Ps0_2.out Ps1_2.out).mono ?_
      rintro e w3 ⟨rfl, hb⟩
      have HB3 := hide (HB2.out.trans (hb.mono HB2.out.size)); clear hb
      go_wp2_with fail
      refine (toIntS_any _ r0 _ HR0.out (inRow_below HI0.out HB3.out)).mono ?_
      rintro e w4 ⟨px0, rfl, ho, hb⟩
      have Px0_4 := hide (rowC_own ho); have HB4 := hide (HB3.out.trans (hb.mono HB3.out.size)); clear ho hb
      go_wp2_with fail
      refine (toIntS_any _ r1 _ HR1.out (inRow_below HI1.out HB4.out)).mono ?_
      rintro e w5 ⟨px1, rfl, ho, hb⟩
      have Px0_5 := hide (rowC_below Px0_4.out hb); have Px1_5 := hide (rowC_own ho); have HB5 := hide (HB4.out.trans (hb.mono HB4.out.size)); clear ho hb
      go_wp2_with fail
      refine (HM.out px0 px1 _ Px0_5.out Px1_5.out).mono ?_
      rintro e w6 ⟨rfl, hb⟩
      have Px0_6 := hide (rowC_below Px0_5.out hb); have Px1_6 := hide (rowC_below Px1_5.out hb); have HB6 := hide (HB5.out.trans (hb.mono HB5.out.size)); clear hb
      go_wp2_with fail
      refine (toIntS_any _ r0 _ HR0.out (inRow_below HI0.out HB6.out)).mono ?_
      rintro e w7 ⟨py0, rfl, ho, hb⟩
      have Px0_7 := hide (rowC_below Px0_6.out hb); have Px1_7 := hide (rowC_below Px1_6.out hb); have Py0_7 := hide (rowC_own ho); have HB7 := hide (HB6.out.trans (hb.mono HB6.out.size)); clear ho hb
      go_wp2_with fail
      refine (eqIntS_same px0 py0 r0 _ Px0_7.out.1 Py0_7.out.1).mono ?_
      rintro e w8 ⟨rfl, hb⟩
      have Px1_8 := hide (rowC_below Px1_7.out hb); have HB8 := hide (HB7.out.trans (hb.mono HB7.out.size)); clear hb
      go_wp2_with fail
      refine (toIntS_any _ r1 _ HR1.out (inRow_below HI1.out HB8.out)).mono ?_
      rintro e w9 ⟨py1, rfl, ho, hb⟩
      have Px1_9 := hide (rowC_below Px1_8.out hb); have Py1_9 := hide (rowC_own ho); have HB9 := hide (HB8.out.trans (hb.mono HB8.out.size)); clear ho hb
      go_wp2_with fail
      refine (eqIntS_same px1 py1 r1 _ Px1_9.out.1 Py1_9.out.1).mono ?_
      rintro e w10 ⟨rfl, hb⟩
      have HB10 := hide (HB9.out.trans (hb.mono HB9.out.size)); clear hb
      go_wp2
      go_ret
      exact ⟨rfl, HB10.out⟩
theorem lawCountImages_walk (a : Option Addr) (n c : Nat) (r : List Int) (b : Option Addr) (k d : Nat) (s : List Int) (w : World) (hin : InRow w (.slice a n c) r) (hin2 : InRow w (.slice b k d) s) :
    Calls Try.prog 7 #[.slice a n c, .slice b k d] w fun e w' => e = .returned (.bool true) ∧ Below w.heap.size w w' :=
  lawCountImages_gen a n c r b k d s w hin hin2 (countIm r s) (fun _ _ p q w hp hq => specCount_im p q r s w hp hq) (fun _ _ p q w hp hq => implCount_im p q r s w hp hq)
end Go.Proofs.Ytpfaaglaeholbaa
