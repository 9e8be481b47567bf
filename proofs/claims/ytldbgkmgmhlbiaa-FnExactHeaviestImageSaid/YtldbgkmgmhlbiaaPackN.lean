/-
  Texts of this claim, one behind the other: BestI, HeavI, HeavS, LawsHv.
-/
import Derived.Test.YtldbgkmgmhlbiaaPackM
import Derived.Test.YtldbgkmgmhlbiaaPackD
import Derived.Test.YtldbgkmgmhlbiaaPackK
import Derived.Test.YtldbgkmgmhlbiaaPackH
import Derived.Test.YtldbgkmgmhlbiaaPackJ
import Derived.Test.YtldbgkmgmhlbiaaPackF
import Derived.Test.YtldbgkmgmhlbiaaPackC
/-
  bestImage: the first of all images of the greatest value.
-/
namespace Go.Proofs.Ytldbgkmgmhlbiaa
open Go.RowKit Go.Shelf
attribute [local go_sem] Oper.semAt_some

/-- What a function value answers of an image of the list, in whatever world has grown out of w. -/
def ValFn (gv : Nat) (cv : Array Value) (vf : List (List Int) → Int) (L : List (List (List Int))) (w : World) : Prop :=
  ∀ (u : Value) (m : List (List Int)) (W : World), m ∈ L → Below w.heap.size w W → InMat W u m → Calls Try.prog gv (#[u] ++ cv) W fun e W' => e = .returned (.int .i64 (vf m)) ∧ Below W.heap.size W W'
/-- The best image so far in the box q, its value in the next one. -/
def BestSt (q : Nat) (vf : List (List Int) → Int) (pre : List (List (List Int))) (A : Nat → Prop) (W : World) : Prop :=
  ∃ (v : Value) (g : Int), Boxed W q 22 v ∧ Boxed W (q + 1) 3 (.int .i64 g) ∧ A q ∧ A (q + 1) ∧ (∀ k, A k → q ≤ k ∧ k < W.heap.size) ∧
    ((bestF vf pre = none ∧ v = .slice none 0 0 ∧ g = -9223372036854775808) ∨ ∃ m lo G, bestF vf pre = some (m, g) ∧ ValM v m lo G W ∧ (∀ k, G k → A k) ∧ q ≤ lo)
theorem bestSt_abid (q B : Nat) (vf : List (List Int) → Int) : AbidF B (BestSt q vf) := by
  rintro pre A W W' ⟨v, g, h1, h2, h3, h4, h5, h6⟩ - - - hs hk
  refine ⟨v, g, (hk q h1.lt (.inr h3)).trans h1, (hk _ h2.lt (.inr h4)).trans h2, h3, h4, fun k hA => ⟨(h5 k hA).1, Nat.lt_of_lt_of_le (h5 k hA).2 hs⟩, ?_⟩
  rcases h6 with h6 | ⟨m, lo, G, g1, g2, g3, g4⟩
  · exact .inl h6
  · exact .inr ⟨m, lo, G, g1, valM_agr g2 fun k hG => hk k (h5 k (g3 k hG)).2 (.inr (g3 k hG)), g3, g4⟩
theorem bestSt_slice {q : Nat} {vf : List (List Int) → Int} {pre : List (List (List Int))} {v : Value} {g : Int} {A : Nat → Prop} {W : World}
    (h : (bestF vf pre = none ∧ v = .slice none 0 0 ∧ g = -9223372036854775808) ∨ ∃ m lo G, bestF vf pre = some (m, g) ∧ ValM v m lo G W ∧ (∀ k, G k → A k) ∧ q ≤ lo) : ∃ a n c, v = .slice a n c := by
  rcases h with ⟨-, rfl, -⟩ | ⟨m, lo, G, -, ⟨vs, ⟨hv, -⟩, -⟩, -⟩
  · exact ⟨_, _, _, rfl⟩
  · obtain ⟨a, c, h⟩ := own_slice hv; exact ⟨a, _, c, h⟩

set_option maxRecDepth 100000 in
set_option maxHeartbeats 2000000 in
theorem bestImage_any (va vb : Value) (r c : List Int) (gv : Nat) (cv : Array Value) (vf : List (List Int) → Int) (w : World) (eg : ∀ args w, (callFunc gv args).run Try.prog w = .ok (.enter gv args) w) (ha : RowC w va r) (hb : InRow w vb c) (hs : sumsOk r c = true)
    (hvf : ValFn gv cv vf (allL r c) w) (hlo : ∀ m ∈ allL r c, -1000000 ≤ vf m ∧ vf m ≤ 1000000) :
    Calls Try.prog 41 #[va, vb, .func (.func gv) #[] cv] w fun e w' => ∃ v g, e = .returned (.tuple #[v, .int .i64 g]) ∧ ((bestF vf (allL r c) = none ∧ v = .slice none 0 0 ∧ g = -9223372036854775808) ∨ ∃ m, bestF vf (allL r c) = some (m, g) ∧ OwnMat w' w.heap.size w'.heap.size v m) ∧ Below w.heap.size w w' := by
  obtain ⟨q, hq⟩ : ∃ q, q = w.heap.size + 1 := ⟨_, rfl⟩
  obtain ⟨w0, hw0⟩ : ∃ w0, w0 = w.alloc (.cells #[.func (.func gv) #[] cv] 51) := ⟨_, rfl⟩
  have hs0 : w0.heap.size = w.heap.size + 1 := by rw [hw0]; simp
  obtain ⟨w1, hw1⟩ : ∃ w1, w1 = (w0.alloc (.cells #[.slice none 0 0] 22)).alloc (.cells #[.int .i64 (-9223372036854775808)] 3) := ⟨_, rfl⟩
  have B1 := hide (show Below w.heap.size w w1 by
    rw [hw1, hw0]
    exact (((Below.refl _ w).alloc (Nat.le_refl _) _).alloc (by simp) _).alloc (by simp; omega) _)
  have HS1 := hide (show w1.heap.size = w.heap.size + 3 by rw [hw1]; simp [hs0])
  have HQ := hide hq
  have HQ1 := hide (show Boxed w1 q 22 (.slice none 0 0) by
    rw [hw1, hq, ← hs0]; exact (Boxed.new w0 _ _).alloc _)
  have HQ2 := hide (show Boxed w1 (q + 1) 3 (.int .i64 (-9223372036854775808)) by
    have := Boxed.new (w0.alloc (.cells #[.slice none 0 0] 22)) 3 (.int .i64 (-9223372036854775808))
    rw [World.size_alloc, hs0] at this
    rw [hq, hw1]; exact this)
  have HQ0 := hide (show Boxed w1 w.heap.size 51 (.func (.func gv) #[] cv) by
    have h0 : Boxed w0 w.heap.size 51 (.func (.func gv) #[] cv) := by rw [hw0]; exact Boxed.new _ _ _
    rw [hw1]
    exact (h0.alloc _).alloc _)
  have HIW := hide fun w' (hw : Below w.heap.size w w') => imagesWith_any va vb r c w' (rowC_below ha hw) (inRow_below hb hw)
  have HSEQ := hide fun (W : World) (b : Nat) (A : Nat → Prop) (hW : Below w.heap.size w W) (hA : ∀ k, A k → w.heap.size ≤ k ∧ k < W.heap.size) (hA2 : ∀ k, A k → k < b) (h1 : W.cell? ⟨b, 0, none⟩ = some va) (h2 : W.cell? ⟨b + 1, 0, none⟩ = some vb) (h3 : W.cell? ⟨b + 2, 0, none⟩ = some (.func (.func 77) #[] #[])) =>
    iter_start ha hb hs hW hA h1 h2 h3 (fun x => Nat.lt_irrefl _ (hA2 _ x)) (fun x => by have := hA2 _ x; omega) (fun x => by have := hA2 _ x; omega)
  obtain ⟨L, hL⟩ : ∃ L, L = allL r c := ⟨_, rfl⟩
  rw [← hL] at HSEQ hvf hlo ⊢
  have HVF := hide hvf; have HLO := hide hlo
  obtain ⟨-, a1, c1, rfl, -, -⟩ := ha
  obtain ⟨a2, c2, rfl, -, -⟩ := hb
  obtain ⟨n1, hn1⟩ : ∃ n, n = r.length := ⟨_, rfl⟩
  obtain ⟨n2, hn2⟩ : ∃ n, n = c.length := ⟨_, rfl⟩
  rw [← hn1, ← hn2] at HIW HSEQ
  rw [← hn1, ← hn2]
  clear hn1 hn2 hL hvf hlo hs
  refine (callsIn_wide (n := 0)).1 ?_
  refine callsIn_of_wp_marks Try.func41 rfl trivial ?_ rfl
  simp only [Try.ntmps41, List.size_toArray, List.length_cons, List.length_nil, Nat.reduceAdd, Nat.reduceSub, Array.replicate_succ, Array.replicate_zero, List.push_toArray, List.append_toArray, List.nil_append, List.cons_append]
  gi_wp2_with fail
  rw [← hw0, ← hw1, show w.heap.size + 1 + 1 = q + 1 by rw [hq], ← hq]
  clear hw1 hw0 hs0 hq
  refine ⟨trivial, rfl, (callsIn_wide (n := 0)).2 ((HIW.out w1 B1.out).mono ?_)⟩
  rintro e w3 ⟨rfl, hx0, hx1, hx2, hb3, hs3⟩
  have B3 := hide (B1.out.trans (hb3.mono B1.out.size))
  have HX := hide (And.intro hx0 (And.intro hx1 hx2))
  have HS3 := hide hs3
  have HR0 := hide (show Boxed w3 w.heap.size 51 (.func (.func gv) #[] cv) from (hb3.block _ HQ0.out.lt).trans HQ0.out)
  have HST := hide (show BestSt q vf [] (fun k => k = q ∨ k = q + 1) w3 from ⟨_, _, (hb3.block _ HQ1.out.lt).trans HQ1.out, (hb3.block _ HQ2.out.lt).trans HQ2.out, .inl rfl, .inr rfl, fun k hk => by have h1 := HS1.out; have h2 := HQ.out; omega, .inl ⟨rfl, rfl, rfl⟩⟩)
  clear hx0 hx1 hx2 hb3 hs3
  gi_wp2_with fail
  refine wp_rangeEach (gf := 86) (lb := #[.pointer (some ⟨w1.heap.size, 0, none⟩), .pointer (some ⟨w1.heap.size + 2, 0, none⟩), .pointer (some ⟨w1.heap.size + 1, 0, none⟩)]) rfl (enters_of Try.func86 (by kernel_rfl) rfl)
    (L := L) (Val := ValM) (fun v m lo G W W' h1 _ h3 => valM_agr h1 h3) (fun k => k = q ∨ k = q + 1) (fun k hk => by have h1 := HS1.out; have h2 := HS3.out; have h3 := HQ.out; omega) (fun W4 hb4 hs4 => ?seq) rfl
    (BestSt q vf) (fun _ _ _ _ => False) (bestSt_abid _ _ _) (fun _ _ _ _ _ h => h.elim) (fun pre A W h k hk => by obtain ⟨v, g, -, -, -, -, h5, -⟩ := h; exact (h5 k hk).2) HST.out
    (fun x => { tmps := #[.slice a1 n1 c1, .slice a2 n2 c2, .func (.func gv) #[] cv, undef, undef, .pointer (some ⟨w.heap.size, 0, none⟩), .slice none 0 0, .int .i64 0, .pointer (some ⟨q, 0, none⟩), .pointer (some ⟨q + 1, 0, none⟩), x, undef, .slice a1 n1 c1, .slice a2 n2 c2, .func (.func 86) #[] #[.pointer (some ⟨w1.heap.size, 0, none⟩), .pointer (some ⟨w1.heap.size + 2, 0, none⟩), .pointer (some ⟨w1.heap.size + 1, 0, none⟩)], x, undef, undef, undef, undef, undef, undef, undef, undef, undef, undef], defers := [] }) ?assign ?body ?done ?stop
  case seq =>
    have h1 := HS1.out; have h2 := HS3.out; have h3 := HQ.out
    exact HSEQ.out W4 w1.heap.size _ (B3.out.trans (hb4.mono B3.out.size)) (fun k hk => by omega) (fun k hk => by omega) (below_cell hb4 (by omega) HX.out.1) (below_cell hb4 (by omega) HX.out.2.1) (below_cell hb4 (by omega) HX.out.2.2)
  case assign =>
    intro l2 x m lo G W K hv hK
    obtain ⟨ax, nx, cx, rfl⟩ : ∃ a n c, x = .slice a n c := by obtain ⟨vs, ⟨hv, -⟩, -⟩ := hv; obtain ⟨a, c, h⟩ := own_slice hv; exact ⟨a, _, c, h⟩
    clear hv
    gi_wp2
    exact hK
  case body =>
    intro l2 pre A m x lo G W hi hst hpre hval hlo hlo1 hAlo hG
    obtain ⟨ax, nx, cx, rfl⟩ : ∃ a n c, x = .slice a n c := by obtain ⟨vs, ⟨hv, -⟩, -⟩ := id hval; obtain ⟨a, c, h⟩ := own_slice hv; exact ⟨a, _, c, h⟩
    obtain ⟨v, g, hq1, hq2, hAq, hAq1, hAk, hbest⟩ := hi
    have hmL : m ∈ L := hpre.subset (by simp)
    have hBW : Below w.heap.size w W := below_itStep B3.out (fun k hk => by have h1 := HQ.out; omega) hst
    have HBW := hide hBW
    have HC := hide (HVF.out _ m W hmL hBW (inMat_own (valM_own hval fun k hk => (hG k hk).2)))
    have HM := hide (HLO.out m hmL)
    have HQA := hide hq1; have HQB := hide hq2; have HVAL := hide hval; have HG := hide hG; have HAL := hide hAlo; have HAK := hide hAk; have HBE := hide hbest; have HA1 := hide hAq; have HA2 := hide hAq1; have HSN := hide (bestF_snoc vf pre m)
    have HPRE := hide (fun x (hx : x ∈ pre) => hpre.subset (List.mem_append_left _ hx))
    have hc0 : W.cell? ⟨w.heap.size, 0, none⟩ = some (.func (.func gv) #[] cv) := by
      have h1 := HS1.out; have h2 := HS3.out; have h3 := HQ.out
      have hb0 : Boxed W w.heap.size 51 (.func (.func gv) #[] cv) := (hst.1.block _ HR0.out.lt (fun h => by omega)).trans HR0.out
      exact hb0.cell
    clear hst hpre hval hlo hlo1 hAlo hG hAk hbest hq1 hq2 hAq hAq1 hmL hBW
    gi_wp2_with fail
    refine ⟨trivial, rfl, (show CallsIn Fence.wide 0 _ _ _ _ _ from (callsIn_wide (n := 0)).2 (HC.out.mono ?_))⟩
    rintro e W2 ⟨rfl, hb2⟩
    have HB2 := hide hb2
    have HQA2 := hide (show Boxed W2 q 22 v from (hb2.block _ HQA.out.lt).trans HQA.out)
    have HQB2 := hide (show Boxed W2 (q + 1) 3 (.int .i64 g) from (hb2.block _ HQB.out.lt).trans HQB.out)
    obtain ⟨z, hz⟩ : ∃ z, z = vf m := ⟨_, rfl⟩
    have HZ := hide hz
    rw [← hz] at HM
    rw [← hz]
    have hg2 : -9223372036854775808 ≤ g ∧ g ≤ 1000000 := by
      rcases HBE.out with ⟨-, -, e⟩ | ⟨m', lo', G', e, -⟩
      · omega
      · have hsp := bestF_spec vf pre
        rw [e] at hsp
        obtain ⟨p1, p2, -⟩ := hsp
        have p3 := HLO.out m' (HPRE.out m' p1)
        simp only at p2
        omega
    have hc2 := HQB2.out.cell
    have hf2 := HQB2.out.frozen
    have hc1 := HQA2.out.cell
    have hf1 := HQA2.out.frozen
    obtain ⟨hg3, hg4⟩ := hg2
    obtain ⟨hz3, hz4⟩ := HM.out
    clear hb2 hz hc0
    by_cases hlt : g < z
    · have hgt : z > g := hlt
      have HLT := hide hlt
      clear hlt
      gi_wp2
      obtain ⟨W', hW'⟩ : ∃ W', W' = (W2.setCell ⟨q, 0, none⟩ (.slice ax nx cx)).setCell ⟨q + 1, 0, none⟩ (.int .i64 z) := ⟨_, rfl⟩
      rw [← hW']
      have hsz : W'.heap.size = W2.heap.size := by rw [hW']; simp [World.setCell]
      have hblk : ∀ k, k ≠ q → k ≠ q + 1 → W'.heap[k]? = W2.heap[k]? := fun k h1 h2 => by
        rw [hW']
        exact (Below.heap_setCell _ _ _ _ h2).trans (Below.heap_setCell _ _ _ _ h1)
      have hbq1 : Boxed W' q 22 (.slice ax nx cx) := by
        rw [hW']
        exact (Below.heap_setCell _ _ _ _ (Nat.ne_of_lt (Nat.lt_succ_self _))).trans (HQA2.out.set _)
      have hbq2 : Boxed W' (q + 1) 3 (.int .i64 z) := by
        have hb0 : Boxed (W2.setCell ⟨q, 0, none⟩ (.slice ax nx cx)) (q + 1) 3 (.int .i64 g) := (Below.heap_setCell _ _ _ _ (Nat.ne_of_gt (Nat.lt_succ_self _))).trans HQB2.out
        rw [hW']
        exact hb0.set _
      have hqlo : q + 1 < lo := HAL.out _ HA2.out
      have hG := HG.out
      have hB2 := HB2.out
      have hsz2 := hB2.size
      refine ⟨fun k => A k ∨ G k, ⟨_, z, hbq1, hbq2, .inl HA1.out, .inl HA2.out, fun k hk => ?_, .inr ⟨m, lo, G, ?_, valM_agr HVAL.out fun k hk => ?_, fun k hk => .inr hk, by omega⟩⟩, ⟨⟨?_, ?_, ?_, by omega, fun k hk hn => ?_⟩, fun k hk => ?_⟩⟩
      · rcases hk with hk | hk
        · have := HAK.out k hk; omega
        · have := hG k hk; omega
      · rw [HSN.out, HZ.out]
        rcases HBE.out with ⟨e, -⟩ | ⟨m', lo', G', e, -⟩
        · rw [e]; rfl
        · rw [e]; exact bestS_more (by have h := HLT.out; rw [HZ.out] at h; exact h)
      · have := hG k hk
        rw [hblk k (by omega) (by omega), hB2.block k (by omega)]
      · rw [hW']; exact hB2.os
      · rw [hW']; exact hB2.tape
      · rw [hW']; exact hB2.output
      · rw [hblk k (fun e => hn (e ▸ HA1.out)) (fun e => hn (e ▸ HA2.out)), hB2.block k hk]
      · rcases hk with hk | hk
        · exact .inl hk
        · exact .inr (.inl hk)
    · have HLT := hide hlt
      have hle : z ≤ g := by omega
      clear hlt
      gi_wp2
      have hB2 := HB2.out
      have hsz2 := hB2.size
      refine ⟨A, ⟨v, g, HQA2.out, HQB2.out, HA1.out, HA2.out, fun k hk => by have := HAK.out k hk; omega, .inr ?_⟩, ⟨⟨hB2.os, hB2.tape, hB2.output, hsz2, fun k hk _ => hB2.block k hk⟩, fun k hk => .inl hk⟩⟩
      rcases HBE.out with ⟨-, -, e⟩ | ⟨m', lo', G', e, g1, g2, g3⟩
      · omega
      · refine ⟨m', lo', G', ?_, valM_agr g1 fun k hk => hB2.block k (HAK.out k (g2 k hk)).2, g2, g3⟩
        rw [HSN.out, e]; exact bestS_less (by have h := HLT.out; rw [HZ.out] at h; show ¬ g < vf m; omega)
  case done =>
    rintro A W ⟨v, g, hq1, hq2, hAq, hAq1, hAk, hbest⟩ hst _ hmk
    obtain ⟨av, nv, cv', rfl⟩ := bestSt_slice hbest
    have hc1 := hq1.cell
    have hc2 := hq2.cell
    have HMK := hide hmk
    have HBE := hide hbest
    have HAK := hide hAk
    have HBB := hide (below_itStep B3.out (fun k hk => by have h1 := HQ.out; omega) hst)
    clear hst hmk hbest hAk hAq hAq1 hq1 hq2
    gi_wp2
    rw [wpIn_wide]
    go_quiet (fail)
    gi_wp2
    refine ⟨by simp, .inl ⟨_, _, rfl, run_takeDeferred (show (W.drewN nq).heap[w3.heap.size]? = _ from HMK.out), ?_⟩⟩
    refine ⟨_, results_tmp2 rfl _ _ _, .slice av nv cv', g, rfl, ?_, below_putObj (below_draws HBB.out nq) B3.out.size _⟩
    rcases HBE.out with h | ⟨m, lo, G, g1, g2, g3, g4⟩
    · exact .inl h
    · refine .inr ⟨m, g1, ?_⟩
      have hm : OwnMat (W.drewN nq) lo W.heap.size (.slice av nv cv') m := valM_own (valM_agr g2 fun k hk => rfl) fun k hk => (HAK.out k (g3 k hk)).2
      exact ownMat_mono (ownMat_putObj _ hm (show (W.drewN nq).heap[w3.heap.size]? = _ from HMK.out) rfl) (by have := HQ.out; omega) (by simp [World.putObj])
  case stop =>
    intro cc pre A W hpre h
    exact h.elim
end Go.Proofs.Ytldbgkmgmhlbiaa
/-
  HeaviestImage of the program.
-/
namespace Go.Proofs.Ytldbgkmgmhlbiaa
open Go.RowKit Go.Shelf

theorem heavy1_any (r c : List Int) (k : List (List Int)) (vk : Value) (q : Nat) (w : World) (hk : InMat w vk k) (he : existsOf r c = true) (hsz : sizeB k r.length c.length (-100) 100 = true) (hq : w.cell? ⟨q, 0, none⟩ = some vk) (hqs : q < w.heap.size) :
    ValFn 42 #[.pointer (some ⟨q, 0, none⟩)] (heavF r c k) (allL r c) w := by
  intro u m W hm hW hu
  obtain ⟨hmk, hI, -⟩ := allL_mk he hm
  obtain ⟨hkm, hwt⟩ := sizeB_wt hsz
  have hk2 := inMat_below hk hW
  rw [hkm] at hk2
  have hu2 := hu
  rw [hmk] at hu2
  have HB := hide (blackWeight_any vk u r.length c.length (cellM k) (cellM m) W hk2 hu2 hI hwt)
  have HF : Hid (heavF r c k m = wtS r.length c.length (cellM k) (cellM m)) := hide rfl
  rw [HF.out]
  have hq2 := below_cell hW hqs hq
  obtain ⟨ak, ck, rfl, -, -⟩ := hk
  obtain ⟨au, cu, rfl, -, -⟩ := hu
  obtain ⟨S, hS⟩ : ∃ S, S = wtS r.length c.length (cellM k) (cellM m) := ⟨_, rfl⟩
  rw [← hS] at HB ⊢
  generalize k.length = K at *
  generalize m.length = M at *
  clear hq hW hk2 hu2 hI hwt hkm hmk hm he hsz hS HF hqs
  go_enter Try.func42, Try.ntmps42
  go_wp2_with (go_at_call 37; refine HB.out.mono ?_; rintro e w2 ⟨rfl, rfl⟩)
  go_ret
  exact ⟨rfl, Below.refl _ _⟩
def PickRes (m : List (List Int)) (n : Int) (b : Bool) (w : World) (e : Ending) (w' : World) : Prop := ∃ u0, e = .returned (.tuple #[u0, .int .i64 n, .bool b]) ∧ OwnMat w' w.heap.size w'.heap.size u0 m ∧ Below w.heap.size w w'
set_option maxRecDepth 100000 in
set_option maxHeartbeats 2000000 in
theorem implHeaviest_any (va vb vk : Value) (r c : List Int) (k : List (List Int)) (w : World) (ha : RowC w va r) (hb : RowC w vb c) (hk : InMat w vk k) :
    Calls Try.prog 17 #[va, vb, vk] w (PickRes (heavP r c k).1 (heavP r c k).2 (heavB r c k) w) := by
  obtain ⟨w1, hw1⟩ : ∃ w1, w1 = w.alloc (.cells #[vk] 22) := ⟨_, rfl⟩
  have B1 := hide (show Below w.heap.size w w1 by rw [hw1]; exact (Below.refl _ w).alloc (Nat.le_refl _) _)
  have hs1 : w1.heap.size = w.heap.size + 1 := by rw [hw1]; simp
  have hq1 : w1.cell? ⟨w.heap.size, 0, none⟩ = some vk := by rw [hw1]; simp [World.cell?_alloc_new]
  have HE := hide (implExists_any va vb r c w1 (inRow_below ha.1 B1.out) (inRow_below hb.1 B1.out))
  cases he : existsOf r c with
  | false =>
    rw [he] at HE
    have HH : Hid (heavB r c k = false) := hide (by rw [heavB, he, Bool.false_and])
    have HP : Hid (heavP r c k = ([], 0)) := hide (by rw [heavP, HH.out]; rfl)
    rw [HH.out, HP.out]
    obtain ⟨-, a1, c1, rfl, -, -⟩ := ha
    obtain ⟨-, a2, c2, rfl, -, -⟩ := hb
    obtain ⟨a3, c3, rfl, -, -⟩ := hk
    generalize r.length = n1 at *
    generalize c.length = n2 at *
    generalize k.length = n3 at *
    clear he HH HP hs1 hq1
    go_enter Try.func17, Try.ntmps17
    go_wp2_with fail
    rw [← hw1]
    clear hw1
    go_wp2_with (go_at_call 40; refine HE.out.mono ?_; rintro e w2 ⟨rfl, b2⟩; have B2 := hide b2; clear b2)
    refine bodyPost_ret (results_tmp3 rfl _ _ _) rfl ⟨_, rfl, ownMat_nil _ _ _, B1.out.trans (B2.out.mono B1.out.size)⟩
  | true =>
    rw [he] at HE
    obtain ⟨hr5, hc5, -⟩ := sumsOk_yes (existsOf_sums he)
    have HW := hide fun w' (hw : Below w.heap.size w w') => implWeightOk_any vk k r.length c.length w' (inMat_below hk hw)
    have HQC := hide fun w' (hw : Below w1.heap.size w1 w') => below_cell hw (by omega) hq1
    cases hwb : wtB k r.length c.length with
    | false =>
      rw [hwb] at HW
      have HH : Hid (heavB r c k = false) := hide (by rw [heavB, hwb, Bool.and_false])
      have HP : Hid (heavP r c k = ([], 0)) := hide (by rw [heavP, HH.out]; rfl)
      rw [HH.out, HP.out]
      obtain ⟨-, a1, c1, rfl, -, -⟩ := ha
      obtain ⟨-, a2, c2, rfl, -, -⟩ := hb
      obtain ⟨a3, c3, rfl, -, -⟩ := hk
      obtain ⟨n1, hn1⟩ : ∃ n, n = r.length := ⟨_, rfl⟩
      obtain ⟨n2, hn2⟩ : ∃ n, n = c.length := ⟨_, rfl⟩
      obtain ⟨n3, hn3⟩ : ∃ n, n = k.length := ⟨_, rfl⟩
      rw [← hn1, ← hn2] at HE HW
      rw [← hn3] at HW HQC hw1
      rw [← hn1, ← hn2, ← hn3]
      clear he hwb HH HP hs1 hq1 hr5 hc5 hn1 hn2 hn3
      go_enter Try.func17, Try.ntmps17
      go_wp2_with fail
      rw [← hw1]
      clear hw1
      go_wp2_with (first | (go_at_call 40; refine HE.out.mono ?_; rintro e w2 ⟨rfl, b2⟩; have B2 := hide (B1.out.trans (b2.mono B1.out.size)); have hqc := HQC.out _ b2; clear b2) | (go_at_call 11; refine (HW.out _ B2.out).mono ?_; rintro e w3 ⟨rfl, b3⟩; have B3 := hide (B2.out.trans (b3.mono B2.out.size)); clear b3))
      refine bodyPost_ret (results_tmp3 rfl _ _ _) rfl ⟨_, rfl, ownMat_nil _ _ _, B3.out⟩
    | true =>
      rw [hwb] at HW
      have hsz := wtB_nat hwb
      obtain ⟨hkm, hwt⟩ := sizeB_wt hsz
      have HH : Hid (heavB r c k = true) := hide (by rw [heavB, he, hwb]; rfl)
      have HBI := hide fun w' (hw1' : Below w1.heap.size w1 w') => bestImage_any va vb r c 42 #[.pointer (some ⟨w.heap.size, 0, none⟩)] (heavF r c k) w' (enters_of Try.func42 (by kernel_rfl) rfl)
        (rowC_below ha (B1.out.trans (hw1'.mono B1.out.size))) (inRow_below hb.1 (B1.out.trans (hw1'.mono B1.out.size))) (existsOf_sums he) (heavy1_any r c k vk w.heap.size w' (inMat_below hk (B1.out.trans (hw1'.mono B1.out.size))) he hsz (HQC.out _ hw1') (by have := hw1'.size; omega)) (fun m hm => by have := heavF_range he hwt hm; omega)
      obtain ⟨p, hp, -⟩ := bestF_some (vf := heavF r c k) (allL_ne he)
      have HP : Hid (heavP r c k = p) := hide (by rw [heavP, HH.out, pickP, hp]; rfl)
      rw [HH.out, HP.out]
      rw [hp] at HBI
      obtain ⟨-, a1, c1, rfl, -, -⟩ := ha
      obtain ⟨-, a2, c2, rfl, -, -⟩ := hb
      obtain ⟨a3, c3, rfl, -, -⟩ := hk
      obtain ⟨n1, hn1⟩ : ∃ n, n = r.length := ⟨_, rfl⟩
      obtain ⟨n2, hn2⟩ : ∃ n, n = c.length := ⟨_, rfl⟩
      obtain ⟨n3, hn3⟩ : ∃ n, n = k.length := ⟨_, rfl⟩
      rw [← hn1, ← hn2] at HE HW HBI
      rw [← hn3] at HW HQC hw1
      rw [← hn1, ← hn2, ← hn3]
      clear he hwb HH HP hs1 hq1 hr5 hc5 hn1 hn2 hn3 hp hsz hkm hwt
      go_enter Try.func17, Try.ntmps17
      go_wp2_with fail
      rw [← hw1]
      clear hw1
      go_wp2_with (first | (go_at_call 40; refine HE.out.mono ?_; rintro e w2 ⟨rfl, b2⟩; have B2 := hide b2; have hqc := HQC.out _ b2; clear b2) | (go_at_call 11; refine (HW.out _ (B1.out.trans (B2.out.mono B1.out.size))).mono ?_; rintro e w3 ⟨rfl, b3⟩; have B3 := hide (B2.out.trans (b3.mono B2.out.size)); clear b3) | fail)
      refine (HBI.out _ B3.out).mono ?_
      rintro e w4 ⟨v, g, rfl, h | ⟨m, h1, h2⟩, b4⟩
      · exact absurd h.1 (by simp)
      · obtain rfl := Option.some.inj h1
        have HB4 := hide ((B1.out.trans (B3.out.mono B1.out.size)).trans (b4.mono (B1.out.trans (B3.out.mono B1.out.size)).size))
        have HM := hide (ownMat_mono h2 (B1.out.trans (B3.out.mono B1.out.size)).size (Nat.le_refl _))
        obtain ⟨av, nv, cv, rfl⟩ : ∃ a n c, v = .slice a n c := by obtain ⟨vs, hv, -⟩ := h2; obtain ⟨a, c, h⟩ := own_slice hv; exact ⟨a, _, c, h⟩
        clear h1 h2 b4
        go_wp2
        refine bodyPost_ret (results_tmp3 rfl _ _ _) rfl ⟨_, rfl, HM.out, HB4.out⟩
end Go.Proofs.Ytldbgkmgmhlbiaa
/-
  HeaviestImage of the model.
-/
namespace Go.Proofs.Ytldbgkmgmhlbiaa
open Go.RowKit Go.Shelf

/-- An image of the list, as it lies. -/
theorem ownImgs_at {w : World} {lo g c : Nat} {us : List Value} {ms : List (List (List Int))} (hv : w.ownsRow lo 22 1 (.slice (some ⟨g, 0, none⟩) ms.length c) ms.length us) (hm : ∀ i, (h : i < ms.length) → OwnM2 w lo (us.getD i undef) ms[i]) {i : Nat} (h : i < ms.length) :
    ∃ a n' c', us.getD i undef = .slice a n' c' ∧ w.cell? ⟨g, i, none⟩ = some (.slice a n' c') ∧ InMat w (.slice a n' c') ms[i] := by
  have hx := cell_held hv h
  obtain ⟨hi, h1, h2⟩ := hm i h
  obtain ⟨a, c', he⟩ : ∃ a c', us.getD i undef = .slice a ms[i].length c' := by obtain ⟨vs, hv2, -⟩ := h2; obtain ⟨a, c, h⟩ := own_slice hv2; exact ⟨a, c, h⟩
  rw [he] at hx h2
  exact ⟨a, _, c', he, hx, inMat_own h2⟩
set_option maxRecDepth 100000 in
set_option maxHeartbeats 2000000 in
theorem specHeaviest_any (va vb vk : Value) (r c : List Int) (k : List (List Int)) (w : World) (ha : RowC w va r) (hb : RowC w vb c) (hk : InMat w vk k) :
    Calls Try.prog 15 #[va, vb, vk] w (PickRes (heavP r c k).1 (heavP r c k).2 (heavB r c k) w) := by
  have HE := hide (specExists_any va vb r c w ha.1 hb.1)
  cases he : existsOf r c with
  | false =>
    rw [he] at HE
    have HH : Hid (heavB r c k = false) := hide (by rw [heavB, he, Bool.false_and])
    have HP : Hid (heavP r c k = ([], 0)) := hide (by rw [heavP, HH.out]; rfl)
    rw [HH.out, HP.out]
    obtain ⟨-, a1, c1, rfl, -, -⟩ := ha
    obtain ⟨-, a2, c2, rfl, -, -⟩ := hb
    obtain ⟨a3, c3, rfl, -, -⟩ := hk
    generalize r.length = n1 at *
    generalize c.length = n2 at *
    generalize k.length = n3 at *
    clear he HH HP
    go_enter Try.func15, Try.ntmps15
    go_wp2_with (go_at_call 38; refine HE.out.mono ?_; rintro e w2 ⟨rfl, b2⟩; have B2 := hide b2; clear b2)
    refine bodyPost_ret (results_tmp3 rfl _ _ _) rfl ⟨_, rfl, ownMat_nil _ _ _, B2.out⟩
  | true =>
    rw [he] at HE
    have HW := hide fun w' (hw : Below w.heap.size w w') => specWeightOk_any vk k r.length c.length w' (inMat_below hk hw)
    cases hwb : wtB k r.length c.length with
    | false =>
      rw [hwb] at HW
      have HH : Hid (heavB r c k = false) := hide (by rw [heavB, hwb, Bool.and_false])
      have HP : Hid (heavP r c k = ([], 0)) := hide (by rw [heavP, HH.out]; rfl)
      rw [HH.out, HP.out]
      obtain ⟨-, a1, c1, rfl, -, -⟩ := ha
      obtain ⟨-, a2, c2, rfl, -, -⟩ := hb
      obtain ⟨a3, c3, rfl, -, -⟩ := hk
      generalize r.length = n1 at *
      generalize c.length = n2 at *
      generalize k.length = n3 at *
      clear he hwb HH HP
      go_enter Try.func15, Try.ntmps15
      go_wp2_with (first | (go_at_call 38; refine HE.out.mono ?_; rintro e w2 ⟨rfl, b2⟩; have B2 := hide b2; clear b2) | (go_at_call 9; refine (HW.out _ B2.out).mono ?_; rintro e w3 ⟨rfl, rfl⟩))
      refine bodyPost_ret (results_tmp3 rfl _ _ _) rfl ⟨_, rfl, ownMat_nil _ _ _, B2.out⟩
    | true =>
      rw [hwb] at HW
      have hsz := wtB_nat hwb
      obtain ⟨hkm, hwt⟩ := sizeB_wt hsz
      have HH : Hid (heavB r c k = true) := hide (by rw [heavB, he, hwb]; rfl)
      have HALL := hide fun (w' : World) (hw : Below w.heap.size w w') => specAll_start r c va vb w w' ha hb.1 he hw
      obtain ⟨p, hp, -⟩ := bestF_some (vf := heavF r c k) (allL_ne he)
      have HP : Hid (heavP r c k = p) := hide (by rw [heavP, HH.out, pickP, hp]; rfl)
      rw [HH.out, HP.out]
      have HLEN := hide (show (allL r c).length ≤ 100000 by
        have := allIm_len r c
        rw [allIm_sums (existsOf_sums he)] at this; exact this)
      have HPOS := hide (show 0 < (allL r c).length from List.length_pos_iff.2 (allL_ne he))
      have HVF := hide fun (m : List (List Int)) (hm : m ∈ allL r c) => heavF_range he hwt hm
      have HBW := hide fun (u : Value) (m : List (List Int)) (W : World) (hm : m ∈ allL r c) (hW : Below w.heap.size w W) (hu : InMat W u m) => (show Calls Try.prog 35 #[vk, u] W (fun e w' => e = .returned (.int .i64 (heavF r c k m)) ∧ W = w') by
        obtain ⟨hmk, hI, -⟩ := allL_mk he hm
        have hk2 := inMat_below hk hW
        rw [hkm] at hk2
        rw [hmk] at hu
        exact l09Weight_any vk u r.length c.length (cellM k) (cellM m) W hk2 hu hI hwt)
      obtain ⟨L, hL⟩ : ∃ L, L = allL r c := ⟨_, rfl⟩
      rw [← hL] at HALL hp HLEN HPOS HVF HBW
      obtain ⟨vf, hvf⟩ : ∃ vf, vf = heavF r c k := ⟨_, rfl⟩
      rw [← hvf] at hp HVF HBW
      have HPP := hide hp
      obtain ⟨-, a1, c1, rfl, -, -⟩ := ha
      obtain ⟨-, a2, c2, rfl, -, -⟩ := hb
      obtain ⟨a3, c3, rfl, -, -⟩ := hk
      generalize r.length = n1 at *
      generalize c.length = n2 at *
      generalize k.length = n3 at *
      obtain ⟨N, hN⟩ : ∃ N, N = L.length := ⟨_, rfl⟩
      have HN := hide hN
      clear he hwb HH HP hp hsz hkm hwt hL hvf hN
      go_enter Try.func15, Try.ntmps15
      go_wp2_with (first | (go_at_call 38; refine HE.out.mono ?_; rintro e w2 ⟨rfl, b2⟩; have B2 := hide b2; clear b2) | (go_at_call 9; refine (HW.out _ B2.out).mono ?_; rintro e w3 ⟨rfl, rfl⟩) | fail)
      refine (HALL.out _ (B2.out.alloc B2.out.size _)).mono ?_
      rintro e w4 ⟨u, rfl, ⟨us, hv, hm⟩, b4⟩
      obtain ⟨g, cap, rfl, -, -, -, -, -, -⟩ := own_some hv HPOS.out
      have HAT := hide fun (i : Nat) (h : i < L.length) => ownImgs_at hv hm h
      have HM := hide hm
      have B4 := hide b4
      have hln : L.length ≤ 100000 := HLEN.out
      have hN0 : 0 < N := by have := HPOS.out; have := HN.out; omega
      rw [← HN.out] at hln ⊢
      clear hv hm b4
      go_wp2
      go_loop [9, 10, 32] (fun v n i => ∃ j : Nat, j ≤ N ∧ i = .int .i64 j ∧ ∃ a n' c' z, v = .slice a n' c' ∧ n = .int .i64 z ∧ -2500 ≤ z ∧ z ≤ 2500 ∧ ((j = 0 ∧ z = 0) ∨ PickSt us L vf j (.slice a n' c') z)) (fun _ _ i => N - (intOf i).toNat)
      case atStart => exact ⟨0, Nat.zero_le _, rfl, _, _, _, 0, rfl, rfl, by omega, by omega, .inl ⟨rfl, rfl⟩⟩
      case round =>
        obtain ⟨j, hj, rfl, a, n', c', z, rfl, rfl, hz1, hz2, hst⟩ := hrel
        have HST := hide hst
        clear hst
        by_cases hlt : j < N
        · have hj' : j < L.length := by have := HN.out; omega
          obtain ⟨ax, nx, cx, hux, hx, hin⟩ := HAT.out j hj'
          have HB := hide (HBW.out (.slice ax nx cx) L[j] _ (List.getElem_mem hj') B4.out hin)
          obtain ⟨hb1, hb2⟩ := HVF.out L[j] (List.getElem_mem hj')
          have HMORE := hide fun (h : PickSt us L vf j (.slice a n' c') z) (hv : z < vf L[j]) => hux ▸ pick_more h hj' hv
          have HLESS := hide fun (h : PickSt us L vf j (.slice a n' c') z) (hv : ¬ z < vf L[j]) => pick_less h hj' hv
          have HFST := hide fun (h : j = 0) => (show PickSt us L vf (j + 1) (.slice ax nx cx) (vf L[j]) by subst h; exact hux ▸ pick_first hj')
          obtain ⟨y, hy⟩ : ∃ y, y = vf L[j] := ⟨_, rfl⟩
          rw [← hy] at HB hb1 hb2 HMORE HLESS HFST
          clear hin hy
          by_cases h0 : j = 0
          · have HS2 := hide (HFST.out h0)
            subst h0
            clear HMORE HLESS HFST HST
            go_wp2_with (go_at_call 35; refine HB.out.mono ?_; rintro e w9 ⟨rfl, rfl⟩)
            go_round
            case rel => exact ⟨1, by omega, rfl, _, _, _, y, rfl, rfl, hb1, hb2, .inr HS2.out⟩
            case measure => simp [intOf]; omega
          · have HP9 := hide (HST.out.resolve_left fun e => h0 e.1)
            have hne : ((j : Int) == 0) = false := by simp; omega
            by_cases hgt : z < y
            · have HS2 := hide (HMORE.out HP9.out hgt)
              have hgt' : y > z := hgt
              clear HMORE HLESS HFST HST HP9 hgt
              go_wp2_with (go_at_call 35; refine HB.out.mono ?_; rintro e w9 ⟨rfl, rfl⟩)
              go_round
              case rel => exact ⟨j + 1, by omega, by go_num, _, _, _, y, rfl, rfl, hb1, hb2, .inr HS2.out⟩
              case measure => simp [intOf]; omega
            · have HS2 := hide (HLESS.out HP9.out hgt)
              clear HMORE HLESS HFST HST HP9
              go_wp2_with (go_at_call 35; refine HB.out.mono ?_; rintro e w9 ⟨rfl, rfl⟩)
              go_round
              case rel => exact ⟨j + 1, by omega, by go_num, _, _, _, z, rfl, rfl, hz1, hz2, .inr HS2.out⟩
              case measure => simp [intOf]; omega
        · have HP9 := hide (HST.out.resolve_left fun e => by omega)
          have hjN : j = L.length := by have := HN.out; omega
          go_wp2
          refine bodyPost_ret (results_tmp3 rfl _ _ _) rfl ?_
          have hp9 := HP9.out
          rw [hjN] at hp9
          obtain ⟨i, hi, e1, e2⟩ := pick_end hp9
          rw [HPP.out] at e1
          obtain rfl := Option.some.inj e1
          obtain ⟨hi2, h1, h2⟩ := HM.out i hi
          rw [← e2] at h2
          exact ⟨_, rfl, ownMat_mono h2 (Nat.le_refl _) h1, B4.out⟩
end Go.Proofs.Ytldbgkmgmhlbiaa
/-
  The exact law on HeaviestImage, walked.
-/
namespace Go.Proofs.Ytldbgkmgmhlbiaa
open Go.RowKit
set_option linter.unusedVariables false

theorem pickP_len (vf : List (List Int) → Int) (r c : List Int) (ok : Bool) (h : ok = true → existsOf r c = true) : (pickP vf r c ok).1.length + cellsM (pickP vf r c ok).1 ≤ 1000000 := by
  unfold pickP
  cases ok with
  | false => simp [cellsM]
  | true =>
    have he := h rfl
    obtain ⟨p, hp, hm, -⟩ := bestF_some (vf := vf) (allL_ne he)
    rw [if_pos rfl, hp, Option.getD_some]
    obtain ⟨hr5, hc5, -⟩ := sumsOk_yes (existsOf_sums he)
    rw [(allL_mk he hm).1, mkM_len, cells_mkM]
    have : r.length * c.length ≤ 5 * 5 := Nat.mul_le_mul hr5.2 hc5.2
    omega

theorem heavP_len (r c : List Int) (k : List (List Int)) : (heavP r c k).1.length + cellsM (heavP r c k).1 ≤ 1000000 :=
  pickP_len _ r c _ fun h => by unfold heavB at h; rw [Bool.and_eq_true] at h; exact h.1

set_option maxRecDepth 100000 in
set_option maxHeartbeats 4000000 in
theorem lawHeaviestImage_gen (a0 : Option Addr) (n0 c0 : Nat) (r0 : List Int) (a1 : Option Addr) (n1 c1 : Nat) (r1 : List Int) (a2 : Option Addr) (n2 c2 : Nat) (m2 : List (List Int)) (w : World) (hin0 : InRow w (.slice a0 n0 c0) r0) (hin1 : InRow w (.slice a1 n1 c1) r1) (hin2 : InMat w (.slice a2 n2 c2) m2) (m_0 : List (List Int)) (v_1 : Int) (b_2 : Bool) (hres0 : m_0.length + cellsM m_0 ≤ 1000000)
    (hs : ∀ (v0 v1 v2 : Value) (w : World), RowC w v0 r0 → RowC w v1 r1 → InMat w v2 m2 → Calls Try.prog 15 #[v0, v1, v2] w (fun e w' => ∃ u0, e = .returned (.tuple #[u0, .int .i64 v_1, .bool b_2]) ∧ OwnMat w' w.heap.size w'.heap.size u0 m_0 ∧ Below w.heap.size w w'))
    (hi : ∀ (v0 v1 v2 : Value) (w : World), RowC w v0 r0 → RowC w v1 r1 → InMat w v2 m2 → Calls Try.prog 17 #[v0, v1, v2] w (fun e w' => ∃ u0, e = .returned (.tuple #[u0, .int .i64 v_1, .bool b_2]) ∧ OwnMat w' w.heap.size w'.heap.size u0 m_0 ∧ Below w.heap.size w w')) :
    Calls Try.prog 5 #[.slice a0 n0 c0, .slice a1 n1 c1, .slice a2 n2 c2] w fun e w' => e = .returned (.bool true) ∧ Below w.heap.size w w' := by
  have HI0 := hide hin0
  obtain ⟨a', c', he, hm0, -⟩ := hin0
  cases he
  unfold maxLen at hm0
  have HI1 := hide hin1
  obtain ⟨a', c', he, hm1, -⟩ := hin1
  cases he
  unfold maxLen at hm1
  have HI2 := hide hin2
  obtain ⟨a', c', he, hm2, -⟩ := hin2
  cases he
  unfold maxLen at hm2
  by_cases hr0 : 1048576 < r0.length
  · clear hs hi
    obtain ⟨R0, hR0⟩ : ∃ x, x = r0.length := ⟨_, rfl⟩
    obtain ⟨R1, hR1⟩ : ∃ x, x = r1.length := ⟨_, rfl⟩
    obtain ⟨R2, hR2⟩ : ∃ x, x = m2.length := ⟨_, rfl⟩
    rw [← hR0] at HI0 hm0 hr0 ⊢
    rw [← hR1] at HI1 hm1 ⊢
    rw [← hR2] at HI2 hm2 ⊢
    clear hR0 hR1 hR2
    go_enter Try.func5, Try.ntmps5
    go_wp2
    go_ret
    exact ⟨rfl, Below.refl _ _⟩
  · by_cases hr1 : 1048576 < r1.length
    · clear hs hi
      obtain ⟨R0, hR0⟩ : ∃ x, x = r0.length := ⟨_, rfl⟩
      obtain ⟨R1, hR1⟩ : ∃ x, x = r1.length := ⟨_, rfl⟩
      obtain ⟨R2, hR2⟩ : ∃ x, x = m2.length := ⟨_, rfl⟩
      rw [← hR0] at HI0 hm0 hr0 ⊢
      rw [← hR1] at HI1 hm1 hr1 ⊢
      rw [← hR2] at HI2 hm2 ⊢
      clear hR0 hR1 hR2
      go_enter Try.func5, Try.ntmps5
      go_wp2
      go_ret
      exact ⟨rfl, Below.refl _ _⟩
    · skip
      have HR0 : Hid (r0.length ≤ 2000000) := hide (by omega)
      have HR1 : Hid (r1.length ≤ 2000000) := hide (by omega)
      have hbb2 : (b_2 != b_2) = false := by cases b_2 <;> rfl
      go_enter Try.func5, Try.ntmps5
      go_wp2_with fail
      refine (szIntSS_any _ m2 (1048576) _ (by omega) HI2.out).mono ?_
      rintro e w1 ⟨q2, rfl, hq2, hb⟩
      have HB1 := hide (hb)
      have s1 := hb.size
      clear hb
      rcases hq2 with rfl | ⟨hsz2, rfl⟩
      · go_wp2
        go_ret
        exact ⟨rfl, HB1.out⟩
      · skip
        have HZ2 : Hid (m2.length + cellsM m2 ≤ 1048576) := hide (by omega)
        have HS := hide (hs); have HM := hide (hi)
        clear hs hi
        go_wp2_with fail
        refine (toIntS_any _ r0 _ HR0.out (inRow_below HI0.out HB1.out)).mono ?_
        rintro e w2 ⟨p0, rfl, ho, hb⟩
        have P0L := hide (fun k e => (ho).lt k e)
        have P0_2 := hide (ho)
        have HB2 := hide (HB1.out.trans (hb.mono HB1.out.size))
        have s2 := hb.size
        clear ho hb
        go_wp2_with fail
        refine (toIntS_any _ r1 _ HR1.out (inRow_below HI1.out HB2.out)).mono ?_
        rintro e w3 ⟨p1, rfl, ho, hb⟩
        have P0_3 := hide (own_below P0_2.out hb)
        have P1L := hide (fun k e => (ho).lt k e)
        have P1_3 := hide (ho)
        have HB3 := hide (HB2.out.trans (hb.mono HB2.out.size))
        have s3 := hb.size
        clear ho hb
        go_wp2_with fail
        refine (toIntSS_any _ m2 _ (by have := HZ2.out; omega) (inMat_below HI2.out HB3.out)).mono ?_
        rintro e w4 ⟨p2, rfl, ho, hb⟩
        have P0_4 := hide (own_below P0_3.out hb)
        have P1_4 := hide (own_below P1_3.out hb)
        have P2_4 := hide (ho)
        have HB4 := hide (HB3.out.trans (hb.mono HB3.out.size))
        have s4 := hb.size
        clear ho hb
        go_wp2_with fail
        refine (HS.out p0 p1 p2 _ (rowC_own P0_4.out) (rowC_own P1_4.out) (inMat_own P2_4.out)).mono ?_
        rintro e w5 ⟨u0, rfl, ho, hb⟩
        have U0_5 := hide (ho)
        have HB5 := hide (HB4.out.trans (hb.mono HB4.out.size))
        have s5 := hb.size
        clear ho hb
        go_wp2_with fail
        refine (toIntS_any _ r0 _ HR0.out (inRow_below HI0.out HB5.out)).mono ?_
        rintro e w6 ⟨x0, rfl, ho, hb⟩
        have U0_6 := hide (ownMat_below U0_5.out hb)
        have X0L := hide (fun k e => (ho).lt k e)
        have X0_6 := hide (ho)
        have HB6 := hide (HB5.out.trans (hb.mono HB5.out.size))
        have s6 := hb.size
        clear ho hb
        go_wp2_with fail
        refine (toIntS_any _ r1 _ HR1.out (inRow_below HI1.out HB6.out)).mono ?_
        rintro e w7 ⟨x1, rfl, ho, hb⟩
        have U0_7 := hide (ownMat_below U0_6.out hb)
        have X0_7 := hide (own_below X0_6.out hb)
        have X1L := hide (fun k e => (ho).lt k e)
        have X1_7 := hide (ho)
        have HB7 := hide (HB6.out.trans (hb.mono HB6.out.size))
        have s7 := hb.size
        clear ho hb
        go_wp2_with fail
        refine (toIntSS_any _ m2 _ (by have := HZ2.out; omega) (inMat_below HI2.out HB7.out)).mono ?_
        rintro e w8 ⟨x2, rfl, ho, hb⟩
        have U0_8 := hide (ownMat_below U0_7.out hb)
        have X0_8 := hide (own_below X0_7.out hb)
        have X1_8 := hide (own_below X1_7.out hb)
        have X2_8 := hide (ho)
        have HB8 := hide (HB7.out.trans (hb.mono HB7.out.size))
        have s8 := hb.size
        clear ho hb
        go_wp2_with fail
        refine (HM.out x0 x1 x2 _ (rowC_own X0_8.out) (rowC_own X1_8.out) (inMat_own X2_8.out)).mono ?_
        rintro e w9 ⟨g0, rfl, ho, hb⟩
        have U0_9 := hide (ownMat_below U0_8.out hb)
        have X0_9 := hide (own_below X0_8.out hb)
        have X1_9 := hide (own_below X1_8.out hb)
        have X2_9 := hide (ownMat_below X2_8.out hb)
        have G0_9 := hide (ho)
        have HB9 := hide (HB8.out.trans (hb.mono HB8.out.size))
        have s9 := hb.size
        clear ho hb
        go_wp2_with fail
        refine (eqIntSS_same g0 u0 m_0 _ (inMat_own G0_9.out) (inMat_own U0_9.out)).mono ?_
        rintro e w10 ⟨rfl, hb⟩
        have U0_10 := hide (ownMat_below U0_9.out hb)
        have X0_10 := hide (own_below X0_9.out hb)
        have X1_10 := hide (own_below X1_9.out hb)
        have X2_10 := hide (ownMat_below X2_9.out hb)
        have G0_10 := hide (ownMat_below G0_9.out hb)
        have HB10 := hide (HB9.out.trans (hb.mono HB9.out.size))
        have s10 := hb.size
        clear hb
        go_wp2_with fail
        refine (toIntS_any _ r0 _ HR0.out (inRow_below HI0.out HB10.out)).mono ?_
        rintro e w11 ⟨z0, rfl, ho, hb⟩
        have U0_11 := hide (ownMat_below U0_10.out hb)
        have X0_11 := hide (own_below X0_10.out hb)
        have X1_11 := hide (own_below X1_10.out hb)
        have X2_11 := hide (ownMat_below X2_10.out hb)
        have G0_11 := hide (ownMat_below G0_10.out hb)
        have Z0L := hide (fun k e => (ho).lt k e)
        have Z0_11 := hide (ho)
        have HB11 := hide (HB10.out.trans (hb.mono HB10.out.size))
        have s11 := hb.size
        clear ho hb
        go_wp2_with fail
        refine (eqIntS_same x0 z0 r0 _ (inRow_own X0_11.out) (inRow_own Z0_11.out)).mono ?_
        rintro e w12 ⟨rfl, hb⟩
        have U0_12 := hide (ownMat_below U0_11.out hb)
        have X0_12 := hide (own_below X0_11.out hb)
        have X1_12 := hide (own_below X1_11.out hb)
        have X2_12 := hide (ownMat_below X2_11.out hb)
        have G0_12 := hide (ownMat_below G0_11.out hb)
        have HB12 := hide (HB11.out.trans (hb.mono HB11.out.size))
        have s12 := hb.size
        clear hb
        go_wp2_with fail
        refine (toIntS_any _ r1 _ HR1.out (inRow_below HI1.out HB12.out)).mono ?_
        rintro e w13 ⟨z1, rfl, ho, hb⟩
        have U0_13 := hide (ownMat_below U0_12.out hb)
        have X0_13 := hide (own_below X0_12.out hb)
        have X1_13 := hide (own_below X1_12.out hb)
        have X2_13 := hide (ownMat_below X2_12.out hb)
        have G0_13 := hide (ownMat_below G0_12.out hb)
        have Z1L := hide (fun k e => (ho).lt k e)
        have Z1_13 := hide (ho)
        have HB13 := hide (HB12.out.trans (hb.mono HB12.out.size))
        have s13 := hb.size
        clear ho hb
        go_wp2_with fail
        refine (eqIntS_same x1 z1 r1 _ (inRow_own X1_13.out) (inRow_own Z1_13.out)).mono ?_
        rintro e w14 ⟨rfl, hb⟩
        have U0_14 := hide (ownMat_below U0_13.out hb)
        have X0_14 := hide (own_below X0_13.out hb)
        have X1_14 := hide (own_below X1_13.out hb)
        have X2_14 := hide (ownMat_below X2_13.out hb)
        have G0_14 := hide (ownMat_below G0_13.out hb)
        have HB14 := hide (HB13.out.trans (hb.mono HB13.out.size))
        have s14 := hb.size
        clear hb
        go_wp2_with fail
        refine (toIntSS_any _ m2 _ (by have := HZ2.out; omega) (inMat_below HI2.out HB14.out)).mono ?_
        rintro e w15 ⟨z2, rfl, ho, hb⟩
        have U0_15 := hide (ownMat_below U0_14.out hb)
        have X0_15 := hide (own_below X0_14.out hb)
        have X1_15 := hide (own_below X1_14.out hb)
        have X2_15 := hide (ownMat_below X2_14.out hb)
        have G0_15 := hide (ownMat_below G0_14.out hb)
        have Z2_15 := hide (ho)
        have HB15 := hide (HB14.out.trans (hb.mono HB14.out.size))
        have s15 := hb.size
        clear ho hb
        go_wp2_with fail
        refine (eqIntSS_same x2 z2 m2 _ (inMat_own X2_15.out) (inMat_own Z2_15.out)).mono ?_
        rintro e w16 ⟨rfl, hb⟩
        have U0_16 := hide (ownMat_below U0_15.out hb)
        have X0_16 := hide (own_below X0_15.out hb)
        have X1_16 := hide (own_below X1_15.out hb)
        have X2_16 := hide (ownMat_below X2_15.out hb)
        have G0_16 := hide (ownMat_below G0_15.out hb)
        have HB16 := hide (HB15.out.trans (hb.mono HB15.out.size))
        have s16 := hb.size
        clear hb
        go_wp2_with fail
        refine (markIntS_any r0.length 1 x0 _ _ _ (by have := HR0.out; omega) (by omega) X0_16.out).mono ?_
        rintro e w17 ⟨rfl, -, hg⟩
        have hwi := within_grown (lo := w5.heap.size) (hi := w6.heap.size) hg (fun k e => X0L.out k e); clear hg
        have U0_17 := hide (ownMat_within U0_16.out hwi (by omega))
        have X1_17 := hide (own_within X1_16.out hwi (fun k e => by have h1 := X1L.out k e; omega))
        have X2_17 := hide (ownMat_within X2_16.out hwi (by omega))
        have G0_17 := hide (ownMat_within G0_16.out hwi (by omega))
        have HB17 := hide (HB16.out.trans (below_within hwi (by omega) HB16.out.size))
        have s17 := hwi.size
        clear hwi
        go_wp2_with fail
        refine (markIntS_any r1.length (1 + r0.length) x1 _ _ _ (by have := HR1.out; omega) (by have := HR0.out; omega) X1_17.out).mono ?_
        rintro e w18 ⟨rfl, -, hg⟩
        have hwi := within_grown (lo := w6.heap.size) (hi := w7.heap.size) hg (fun k e => X1L.out k e); clear hg
        have U0_18 := hide (ownMat_within U0_17.out hwi (by omega))
        have X2_18 := hide (ownMat_within X2_17.out hwi (by omega))
        have G0_18 := hide (ownMat_within G0_17.out hwi (by omega))
        have HB18 := hide (HB17.out.trans (below_within hwi (by omega) HB17.out.size))
        have s18 := hwi.size
        clear hwi
        go_wp2_with fail
        refine (markIntSSB_any m2 (1 + r0.length + r1.length) _ _ x2 _ (by have := HZ2.out; omega) (by have := HR0.out; have := HR1.out; omega) X2_18.out).mono ?_
        rintro e w19 ⟨rfl, -, hwi⟩
        have U0_19 := hide (ownMat_within U0_18.out hwi (by omega))
        have G0_19 := hide (ownMat_within G0_18.out hwi (by omega))
        have HB19 := hide (HB18.out.trans (below_within hwi (by omega) HB18.out.size))
        have s19 := hwi.size
        clear hwi
        go_wp2_with fail
        refine (eqIntSS_same g0 u0 m_0 _ (inMat_own G0_19.out) (inMat_own U0_19.out)).mono ?_
        rintro e w20 ⟨rfl, hb⟩
        have U0_20 := hide (ownMat_below U0_19.out hb)
        have G0_20 := hide (ownMat_below G0_19.out hb)
        have HB20 := hide (HB19.out.trans (hb.mono HB19.out.size))
        have s20 := hb.size
        clear hb
        go_wp2_with fail
        refine (markIntSSB_any m_0 1 _ _ g0 _ (by omega) (by omega) G0_20.out).mono ?_
        rintro e w21 ⟨rfl, ho, hwi⟩
        have U0_21 := hide (ownMat_within U0_20.out hwi (by omega))
        have HB21 := hide (HB20.out.trans (below_within hwi (by omega) HB20.out.size))
        have s21 := hwi.size
        clear hwi
        have M_21 := hide (inMat_own ho); clear ho
        go_wp2_with fail
        refine (heldIntSS_any m_0 1 g0 _ (by omega) (by omega) M_21.out).mono ?_
        rintro e w22 ⟨rfl, hb⟩
        have U0_22 := hide (ownMat_below U0_21.out hb)
        have M_22 := hide (inMat_below M_21.out hb)
        have HB22 := hide (HB21.out.trans (hb.mono HB21.out.size))
        have s22 := hb.size
        clear hb
        go_wp2_with fail
        refine (toIntS_any _ r0 _ HR0.out (inRow_below HI0.out HB22.out)).mono ?_
        rintro e w23 ⟨y0, rfl, ho, hb⟩
        have U0_23 := hide (ownMat_below U0_22.out hb)
        have M_23 := hide (inMat_below M_22.out hb)
        have Y0L := hide (fun k e => (ho).lt k e)
        have Y0_23 := hide (ho)
        have HB23 := hide (HB22.out.trans (hb.mono HB22.out.size))
        have s23 := hb.size
        clear ho hb
        go_wp2_with fail
        refine (toIntS_any _ r1 _ HR1.out (inRow_below HI1.out HB23.out)).mono ?_
        rintro e w24 ⟨y1, rfl, ho, hb⟩
        have U0_24 := hide (ownMat_below U0_23.out hb)
        have M_24 := hide (inMat_below M_23.out hb)
        have Y0_24 := hide (own_below Y0_23.out hb)
        have Y1L := hide (fun k e => (ho).lt k e)
        have Y1_24 := hide (ho)
        have HB24 := hide (HB23.out.trans (hb.mono HB23.out.size))
        have s24 := hb.size
        clear ho hb
        go_wp2_with fail
        refine (toIntSS_any _ m2 _ (by have := HZ2.out; omega) (inMat_below HI2.out HB24.out)).mono ?_
        rintro e w25 ⟨y2, rfl, ho, hb⟩
        have U0_25 := hide (ownMat_below U0_24.out hb)
        have M_25 := hide (inMat_below M_24.out hb)
        have Y0_25 := hide (own_below Y0_24.out hb)
        have Y1_25 := hide (own_below Y1_24.out hb)
        have Y2_25 := hide (ho)
        have HB25 := hide (HB24.out.trans (hb.mono HB24.out.size))
        have s25 := hb.size
        clear ho hb
        go_wp2_with fail
        refine (HM.out y0 y1 y2 _ (rowC_own Y0_25.out) (rowC_own Y1_25.out) (inMat_own Y2_25.out)).mono ?_
        rintro e w26 ⟨h0, rfl, ho, hb⟩
        have U0_26 := hide (ownMat_below U0_25.out hb)
        have M_26 := hide (inMat_below M_25.out hb)
        have H0_26 := hide (ho)
        have HB26 := hide (HB25.out.trans (hb.mono HB25.out.size))
        have s26 := hb.size
        clear ho hb
        go_wp2_with fail
        refine (eqIntSS_same h0 u0 m_0 _ (inMat_own H0_26.out) (inMat_own U0_26.out)).mono ?_
        rintro e w27 ⟨rfl, hb⟩
        have U0_27 := hide (ownMat_below U0_26.out hb)
        have M_27 := hide (inMat_below M_26.out hb)
        have H0_27 := hide (ownMat_below H0_26.out hb)
        have HB27 := hide (HB26.out.trans (hb.mono HB26.out.size))
        have s27 := hb.size
        clear hb
        go_wp2_with fail
        refine (heldIntSS_any m_0 1 g0 _ (by omega) (by omega) M_27.out).mono ?_
        rintro e w28 ⟨rfl, hb⟩
        have M_28 := hide (inMat_below M_27.out hb)
        have HB28 := hide (HB27.out.trans (hb.mono HB27.out.size))
        have s28 := hb.size
        clear hb
        go_wp2
        go_ret
        exact ⟨rfl, HB28.out⟩

theorem lawHeaviestImage_walk (a0 : Option Addr) (n0 c0 : Nat) (r0 : List Int) (a1 : Option Addr) (n1 c1 : Nat) (r1 : List Int) (a2 : Option Addr) (n2 c2 : Nat) (m2 : List (List Int)) (w : World) (hin0 : InRow w (.slice a0 n0 c0) r0) (hin1 : InRow w (.slice a1 n1 c1) r1) (hin2 : InMat w (.slice a2 n2 c2) m2) :
    Calls Try.prog 5 #[.slice a0 n0 c0, .slice a1 n1 c1, .slice a2 n2 c2] w fun e w' => e = .returned (.bool true) ∧ Below w.heap.size w w' :=
  lawHeaviestImage_gen a0 n0 c0 r0 a1 n1 c1 r1 a2 n2 c2 m2 w hin0 hin1 hin2 (heavP r0 r1 m2).1 (heavP r0 r1 m2).2 (heavB r0 r1 m2) (heavP_len r0 r1 m2) (fun v0 v1 v2 w h0 h1 h2 => specHeaviest_any v0 v1 v2 r0 r1 m2 w h0 h1 h2) (fun v0 v1 v2 w h0 h1 h2 => implHeaviest_any v0 v1 v2 r0 r1 m2 w h0 h1 h2)
end Go.Proofs.Ytldbgkmgmhlbiaa
