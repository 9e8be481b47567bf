/-
  Texts of this claim, one behind the other: BestI, HeavI, NearI, Has, Swd, IMap, Pairs, Sws, SrA, Srch.
-/
import Derived.Test.YtcliiefedmiokaaGreatPackN
import Derived.Test.YtcliiefedmiokaaGreatPackI
import Derived.Test.YtcliiefedmiokaaGreatPackS
import Derived.Test.YtcliiefedmiokaaGreatPackK
import Derived.Test.YtcliiefedmiokaaGreatPackP
import Derived.Test.YtcliiefedmiokaaGreatPackD
import Derived.DeepKeys5
import Derived.Maps.OwnSet
import Derived.Test.YtcliiefedmiokaaGreatPackE
import Derived.Test.YtcliiefedmiokaaGreatPackH
import Derived.Deep.MidRow
import Derived.WalkMore
import Derived.Deep.LoopGhost
/-
  bestImage: the first of all images of the greatest value.
-/
namespace Go.Proofs.YtcliiefedmiokaaGreat
open Go.RowKit Go.Shelf
attribute [local go_sem] Oper.semAt_some

/-- What a function value answers of an image of the list, in whatever world has grown out of w. -/
def ValFn (gv : Nat) (cv : Array Value) (vf : List (List Int) → Int) (L : List (List (List Int))) (w : World) : Prop :=
  ∀ (u : Value) (m : List (List Int)) (W : World), m ∈ L → Below w.heap.size w W → InMat W u m → Calls Tryz.prog gv (#[u] ++ cv) W fun e W' => e = .returned (.int .i64 (vf m)) ∧ Below W.heap.size W W'
/-- The best image so far in the box q, its value in the next one. -/
def BestSt (q : Nat) (vf : List (List Int) → Int) (pre : List (List (List Int))) (A : Nat → Prop) (W : World) : Prop :=
  ∃ (v : Value) (g : Int), Boxed W q 22 v ∧ Boxed W (q + 1) 3 (.int .i64 g) ∧ A q ∧ A (q + 1) ∧ (∀ k, A k → q ≤ k ∧ k < W.heap.size) ∧
    ((bestF vf pre = none ∧ v = .slice none 0 0 ∧ g = -9223372036854775808) ∨ ∃ m lo G, bestF vf pre = some (m, g) ∧ ValM v m lo G W ∧ (∀ k, G k → A k) ∧ q ≤ lo)
theorem bestSt_abid (q B : Nat) (vf : List (List Int) → Int) : AbidF B (BestSt q vf) := by
  rintro pre A W W' ⟨v, g, h1, h2, h3, h4, h5, h6⟩ - - - hs hk
  refine ⟨v, g, (hk q h1.lt (.inr h3)).trans h1, (hk _ h2.lt (.inr h4)).trans h2, h3, h4, fun k hA => ⟨(h5 k hA).1, Nat.lt_of_lt_of_le (h5 k hA).2 hs⟩, ?_⟩
  rcases h6 with h6 | ⟨m, lo, G, g1, g2, g3, g4⟩
  · exact .inl h6
  · exact .inr ⟨m, lo, G, g1, valM_agr g2 fun k hG => hk k (h5 k (g3 k hG)).2 (.inr (g3 k hG)), g3, g4⟩
theorem bestSt_slice {q : Nat} {vf : List (List Int) → Int} {pre : List (List (List Int))} {v : Value} {g : Int} {A : Nat → Prop} {W : World}
    (h : (bestF vf pre = none ∧ v = .slice none 0 0 ∧ g = -9223372036854775808) ∨ ∃ m lo G, bestF vf pre = some (m, g) ∧ ValM v m lo G W ∧ (∀ k, G k → A k) ∧ q ≤ lo) : ∃ a n c, v = .slice a n c := by
  rcases h with ⟨-, rfl, -⟩ | ⟨m, lo, G, -, ⟨vs, ⟨hv, -⟩, -⟩, -⟩
  · exact ⟨_, _, _, rfl⟩
  · obtain ⟨a, c, h⟩ := own_slice hv; exact ⟨a, _, c, h⟩

set_option maxRecDepth 100000 in
set_option maxHeartbeats 2000000 in
theorem bestImage_any (va vb : Value) (r c : List Int) (gv : Nat) (cv : Array Value) (vf : List (List Int) → Int) (w : World) (eg : ∀ args w, (callFunc gv args).run Tryz.prog w = .ok (.enter gv args) w) (ha : RowC w va r) (hb : InRow w vb c) (hs : sumsOk r c = true)
    (hvf : ValFn gv cv vf (allL r c) w) (hlo : ∀ m ∈ allL r c, -1000000 ≤ vf m ∧ vf m ≤ 1000000) :
    Calls Tryz.prog 66 #[va, vb, .func (.func gv) #[] cv] w fun e w' => ∃ v g, e = .returned (.tuple #[v, .int .i64 g]) ∧ ((bestF vf (allL r c) = none ∧ v = .slice none 0 0 ∧ g = -9223372036854775808) ∨ ∃ m, bestF vf (allL r c) = some (m, g) ∧ OwnMat w' w.heap.size w'.heap.size v m) ∧ Below w.heap.size w w' := by
  obtain ⟨q, hq⟩ : ∃ q, q = w.heap.size + 1 := ⟨_, rfl⟩
  obtain ⟨w0, hw0⟩ : ∃ w0, w0 = w.alloc (.cells #[.func (.func gv) #[] cv] 24) := ⟨_, rfl⟩
  have hs0 : w0.heap.size = w.heap.size + 1 := by rw [hw0]; simp
  obtain ⟨w1, hw1⟩ : ∃ w1, w1 = (w0.alloc (.cells #[.slice none 0 0] 22)).alloc (.cells #[.int .i64 (-9223372036854775808)] 3) := ⟨_, rfl⟩
  have B1 := hide (show Below w.heap.size w w1 by
    rw [hw1, hw0]
    exact (((Below.refl _ w).alloc (Nat.le_refl _) _).alloc (by simp) _).alloc (by simp; omega) _)
  have HS1 := hide (show w1.heap.size = w.heap.size + 3 by rw [hw1]; simp [hs0])
  have HQ := hide hq
  have HQ1 := hide (show Boxed w1 q 22 (.slice none 0 0) by
    rw [hw1, hq, ← hs0]; exact (Boxed.new w0 _ _).alloc _)
  have HQ2 := hide (show Boxed w1 (q + 1) 3 (.int .i64 (-9223372036854775808)) by
    have := Boxed.new (w0.alloc (.cells #[.slice none 0 0] 22)) 3 (.int .i64 (-9223372036854775808))
    rw [World.size_alloc, hs0] at this
    rw [hq, hw1]; exact this)
  have HQ0 := hide (show Boxed w1 w.heap.size 24 (.func (.func gv) #[] cv) by
    have h0 : Boxed w0 w.heap.size 24 (.func (.func gv) #[] cv) := by rw [hw0]; exact Boxed.new _ _ _
    rw [hw1]
    exact (h0.alloc _).alloc _)
  have HIW := hide fun w' (hw : Below w.heap.size w w') => imagesWith_any va vb r c w' (rowC_below ha hw) (inRow_below hb hw)
  have HSEQ := hide fun (W : World) (b : Nat) (A : Nat → Prop) (hW : Below w.heap.size w W) (hA : ∀ k, A k → w.heap.size ≤ k ∧ k < W.heap.size) (hA2 : ∀ k, A k → k < b) (h1 : W.cell? ⟨b, 0, none⟩ = some va) (h2 : W.cell? ⟨b + 1, 0, none⟩ = some vb) (h3 : W.cell? ⟨b + 2, 0, none⟩ = some (.func (.func 120) #[] #[])) =>
    iter_start ha hb hs hW hA h1 h2 h3 (fun x => Nat.lt_irrefl _ (hA2 _ x)) (fun x => by have := hA2 _ x; omega) (fun x => by have := hA2 _ x; omega)
  obtain ⟨L, hL⟩ : ∃ L, L = allL r c := ⟨_, rfl⟩
  rw [← hL] at HSEQ hvf hlo ⊢
  have HVF := hide hvf; have HLO := hide hlo
  obtain ⟨-, a1, c1, rfl, -, -⟩ := ha
  obtain ⟨a2, c2, rfl, -, -⟩ := hb
  obtain ⟨n1, hn1⟩ : ∃ n, n = r.length := ⟨_, rfl⟩
  obtain ⟨n2, hn2⟩ : ∃ n, n = c.length := ⟨_, rfl⟩
  rw [← hn1, ← hn2] at HIW HSEQ
  rw [← hn1, ← hn2]
  clear hn1 hn2 hL hvf hlo hs
  refine (callsIn_wide (n := 0)).1 ?_
  refine callsIn_of_wp_marks Tryz.func66 rfl trivial ?_ rfl
  simp only [Tryz.ntmps66, List.size_toArray, List.length_cons, List.length_nil, Nat.reduceAdd, Nat.reduceSub, Array.replicate_succ, Array.replicate_zero, List.push_toArray, List.append_toArray, List.nil_append, List.cons_append]
  gi_wp2_with fail
  rw [← hw0, ← hw1, show w.heap.size + 1 + 1 = q + 1 by rw [hq], ← hq]
  clear hw1 hw0 hs0 hq
  refine ⟨trivial, rfl, (callsIn_wide (n := 0)).2 ((HIW.out w1 B1.out).mono ?_)⟩
  rintro e w3 ⟨rfl, hx0, hx1, hx2, hb3, hs3⟩
  have B3 := hide (B1.out.trans (hb3.mono B1.out.size))
  have HX := hide (And.intro hx0 (And.intro hx1 hx2))
  have HS3 := hide hs3
  have HR0 := hide (show Boxed w3 w.heap.size 24 (.func (.func gv) #[] cv) from (hb3.block _ HQ0.out.lt).trans HQ0.out)
  have HST := hide (show BestSt q vf [] (fun k => k = q ∨ k = q + 1) w3 from ⟨_, _, (hb3.block _ HQ1.out.lt).trans HQ1.out, (hb3.block _ HQ2.out.lt).trans HQ2.out, .inl rfl, .inr rfl, fun k hk => by have h1 := HS1.out; have h2 := HQ.out; omega, .inl ⟨rfl, rfl, rfl⟩⟩)
  clear hx0 hx1 hx2 hb3 hs3
  gi_wp2_with fail
  refine wp_rangeEach (gf := 134) (lb := #[.pointer (some ⟨w1.heap.size, 0, none⟩), .pointer (some ⟨w1.heap.size + 2, 0, none⟩), .pointer (some ⟨w1.heap.size + 1, 0, none⟩)]) rfl (enters_of Tryz.func134 (by kernel_rfl) rfl)
    (L := L) (Val := ValM) (fun v m lo G W W' h1 _ h3 => valM_agr h1 h3) (fun k => k = q ∨ k = q + 1) (fun k hk => by have h1 := HS1.out; have h2 := HS3.out; have h3 := HQ.out; omega) (fun W4 hb4 hs4 => ?seq) rfl
    (BestSt q vf) (fun _ _ _ _ => False) (bestSt_abid _ _ _) (fun _ _ _ _ _ h => h.elim) (fun pre A W h k hk => by obtain ⟨v, g, -, -, -, -, h5, -⟩ := h; exact (h5 k hk).2) HST.out
    (fun x => { tmps := #[.slice a1 n1 c1, .slice a2 n2 c2, .func (.func gv) #[] cv, undef, undef, .pointer (some ⟨w.heap.size, 0, none⟩), .slice none 0 0, .int .i64 0, .pointer (some ⟨q, 0, none⟩), .pointer (some ⟨q + 1, 0, none⟩), x, undef, .slice a1 n1 c1, .slice a2 n2 c2, .func (.func 134) #[] #[.pointer (some ⟨w1.heap.size, 0, none⟩), .pointer (some ⟨w1.heap.size + 2, 0, none⟩), .pointer (some ⟨w1.heap.size + 1, 0, none⟩)], x, undef, undef, undef, undef, undef, undef, undef, undef, undef, undef], defers := [] }) ?assign ?body ?done ?stop
  case seq =>
    have h1 := HS1.out; have h2 := HS3.out; have h3 := HQ.out
    exact HSEQ.out W4 w1.heap.size _ (B3.out.trans (hb4.mono B3.out.size)) (fun k hk => by omega) (fun k hk => by omega) (below_cell hb4 (by omega) HX.out.1) (below_cell hb4 (by omega) HX.out.2.1) (below_cell hb4 (by omega) HX.out.2.2)
  case assign =>
    intro l2 x m lo G W K hv hK
    obtain ⟨ax, nx, cx, rfl⟩ : ∃ a n c, x = .slice a n c := by obtain ⟨vs, ⟨hv, -⟩, -⟩ := hv; obtain ⟨a, c, h⟩ := own_slice hv; exact ⟨a, _, c, h⟩
    clear hv
    gi_wp2
    exact hK
  case body =>
    intro l2 pre A m x lo G W hi hst hpre hval hlo hlo1 hAlo hG
    obtain ⟨ax, nx, cx, rfl⟩ : ∃ a n c, x = .slice a n c := by obtain ⟨vs, ⟨hv, -⟩, -⟩ := id hval; obtain ⟨a, c, h⟩ := own_slice hv; exact ⟨a, _, c, h⟩
    obtain ⟨v, g, hq1, hq2, hAq, hAq1, hAk, hbest⟩ := hi
    have hmL : m ∈ L := hpre.subset (by simp)
    have hBW : Below w.heap.size w W := below_itStep B3.out (fun k hk => by have h1 := HQ.out; omega) hst
    have HBW := hide hBW
    have HC := hide (HVF.out _ m W hmL hBW (inMat_own (valM_own hval fun k hk => (hG k hk).2)))
    have HM := hide (HLO.out m hmL)
    have HQA := hide hq1; have HQB := hide hq2; have HVAL := hide hval; have HG := hide hG; have HAL := hide hAlo; have HAK := hide hAk; have HBE := hide hbest; have HA1 := hide hAq; have HA2 := hide hAq1; have HSN := hide (bestF_snoc vf pre m)
    have HPRE := hide (fun x (hx : x ∈ pre) => hpre.subset (List.mem_append_left _ hx))
    have hc0 : W.cell? ⟨w.heap.size, 0, none⟩ = some (.func (.func gv) #[] cv) := by
      have h1 := HS1.out; have h2 := HS3.out; have h3 := HQ.out
      have hb0 : Boxed W w.heap.size 24 (.func (.func gv) #[] cv) := (hst.1.block _ HR0.out.lt (fun h => by omega)).trans HR0.out
      exact hb0.cell
    clear hst hpre hval hlo hlo1 hAlo hG hAk hbest hq1 hq2 hAq hAq1 hmL hBW
    gi_wp2_with fail
    refine ⟨trivial, rfl, (show CallsIn Fence.wide 0 _ _ _ _ _ from (callsIn_wide (n := 0)).2 (HC.out.mono ?_))⟩
    rintro e W2 ⟨rfl, hb2⟩
    have HB2 := hide hb2
    have HQA2 := hide (show Boxed W2 q 22 v from (hb2.block _ HQA.out.lt).trans HQA.out)
    have HQB2 := hide (show Boxed W2 (q + 1) 3 (.int .i64 g) from (hb2.block _ HQB.out.lt).trans HQB.out)
    obtain ⟨z, hz⟩ : ∃ z, z = vf m := ⟨_, rfl⟩
    have HZ := hide hz
    rw [← hz] at HM
    rw [← hz]
    have hg2 : -9223372036854775808 ≤ g ∧ g ≤ 1000000 := by
      rcases HBE.out with ⟨-, -, e⟩ | ⟨m', lo', G', e, -⟩
      · omega
      · have hsp := bestF_spec vf pre
        rw [e] at hsp
        obtain ⟨p1, p2, -⟩ := hsp
        have p3 := HLO.out m' (HPRE.out m' p1)
        simp only at p2
        omega
    have hc2 := HQB2.out.cell
    have hf2 := HQB2.out.frozen
    have hc1 := HQA2.out.cell
    have hf1 := HQA2.out.frozen
    obtain ⟨hg3, hg4⟩ := hg2
    obtain ⟨hz3, hz4⟩ := HM.out
    clear hb2 hz hc0
    by_cases hlt : g < z
    · have hgt : z > g := hlt
      have HLT := hide hlt
      clear hlt
      gi_wp2
      obtain ⟨W', hW'⟩ : ∃ W', W' = (W2.setCell ⟨q, 0, none⟩ (.slice ax nx cx)).setCell ⟨q + 1, 0, none⟩ (.int .i64 z) := ⟨_, rfl⟩
      rw [← hW']
      have hsz : W'.heap.size = W2.heap.size := by rw [hW']; simp [World.setCell]
      have hblk : ∀ k, k ≠ q → k ≠ q + 1 → W'.heap[k]? = W2.heap[k]? := fun k h1 h2 => by
        rw [hW']
        exact (Below.heap_setCell _ _ _ _ h2).trans (Below.heap_setCell _ _ _ _ h1)
      have hbq1 : Boxed W' q 22 (.slice ax nx cx) := by
        rw [hW']
        exact (Below.heap_setCell _ _ _ _ (Nat.ne_of_lt (Nat.lt_succ_self _))).trans (HQA2.out.set _)
      have hbq2 : Boxed W' (q + 1) 3 (.int .i64 z) := by
        have hb0 : Boxed (W2.setCell ⟨q, 0, none⟩ (.slice ax nx cx)) (q + 1) 3 (.int .i64 g) := (Below.heap_setCell _ _ _ _ (Nat.ne_of_gt (Nat.lt_succ_self _))).trans HQB2.out
        rw [hW']
        exact hb0.set _
      have hqlo : q + 1 < lo := HAL.out _ HA2.out
      have hG := HG.out
      have hB2 := HB2.out
      have hsz2 := hB2.size
      refine ⟨fun k => A k ∨ G k, ⟨_, z, hbq1, hbq2, .inl HA1.out, .inl HA2.out, fun k hk => ?_, .inr ⟨m, lo, G, ?_, valM_agr HVAL.out fun k hk => ?_, fun k hk => .inr hk, by omega⟩⟩, ⟨⟨?_, ?_, ?_, by omega, fun k hk hn => ?_⟩, fun k hk => ?_⟩⟩
      · rcases hk with hk | hk
        · have := HAK.out k hk; omega
        · have := hG k hk; omega
      · rw [HSN.out, HZ.out]
        rcases HBE.out with ⟨e, -⟩ | ⟨m', lo', G', e, -⟩
        · rw [e]; rfl
        · rw [e]; exact bestS_more (by have h := HLT.out; rw [HZ.out] at h; exact h)
      · have := hG k hk
        rw [hblk k (by omega) (by omega), hB2.block k (by omega)]
      · rw [hW']; exact hB2.os
      · rw [hW']; exact hB2.tape
      · rw [hW']; exact hB2.output
      · rw [hblk k (fun e => hn (e ▸ HA1.out)) (fun e => hn (e ▸ HA2.out)), hB2.block k hk]
      · rcases hk with hk | hk
        · exact .inl hk
        · exact .inr (.inl hk)
    · have HLT := hide hlt
      have hle : z ≤ g := by omega
      clear hlt
      gi_wp2
      have hB2 := HB2.out
      have hsz2 := hB2.size
      refine ⟨A, ⟨v, g, HQA2.out, HQB2.out, HA1.out, HA2.out, fun k hk => by have := HAK.out k hk; omega, .inr ?_⟩, ⟨⟨hB2.os, hB2.tape, hB2.output, hsz2, fun k hk _ => hB2.block k hk⟩, fun k hk => .inl hk⟩⟩
      rcases HBE.out with ⟨-, -, e⟩ | ⟨m', lo', G', e, g1, g2, g3⟩
      · omega
      · refine ⟨m', lo', G', ?_, valM_agr g1 fun k hk => hB2.block k (HAK.out k (g2 k hk)).2, g2, g3⟩
        rw [HSN.out, e]; exact bestS_less (by have h := HLT.out; rw [HZ.out] at h; show ¬ g < vf m; omega)
  case done =>
    rintro A W ⟨v, g, hq1, hq2, hAq, hAq1, hAk, hbest⟩ hst _ hmk
    obtain ⟨av, nv, cv', rfl⟩ := bestSt_slice hbest
    have hc1 := hq1.cell
    have hc2 := hq2.cell
    have HMK := hide hmk
    have HBE := hide hbest
    have HAK := hide hAk
    have HBB := hide (below_itStep B3.out (fun k hk => by have h1 := HQ.out; omega) hst)
    clear hst hmk hbest hAk hAq hAq1 hq1 hq2
    gi_wp2
    rw [wpIn_wide]
    go_quiet (fail)
    gi_wp2
    refine ⟨by simp, .inl ⟨_, _, rfl, run_takeDeferred (show (W.drewN nq).heap[w3.heap.size]? = _ from HMK.out), ?_⟩⟩
    refine ⟨_, results_tmp2 rfl _ _ _, .slice av nv cv', g, rfl, ?_, below_putObj (below_draws HBB.out nq) B3.out.size _⟩
    rcases HBE.out with h | ⟨m, lo, G, g1, g2, g3, g4⟩
    · exact .inl h
    · refine .inr ⟨m, g1, ?_⟩
      have hm : OwnMat (W.drewN nq) lo W.heap.size (.slice av nv cv') m := valM_own (valM_agr g2 fun k hk => rfl) fun k hk => (HAK.out k (g3 k hk)).2
      exact ownMat_mono (ownMat_putObj _ hm (show (W.drewN nq).heap[w3.heap.size]? = _ from HMK.out) rfl) (by have := HQ.out; omega) (by simp [World.putObj])
  case stop =>
    intro cc pre A W hpre h
    exact h.elim
end Go.Proofs.YtcliiefedmiokaaGreat
/-
  HeaviestImage of the program.
-/
namespace Go.Proofs.YtcliiefedmiokaaGreat
open Go.RowKit Go.Shelf

theorem heavy1_any (r c : List Int) (k : List (List Int)) (vk : Value) (q : Nat) (w : World) (hk : InMat w vk k) (he : existsOf r c = true) (hsz : sizeB k r.length c.length (-100) 100 = true) (hq : w.cell? ⟨q, 0, none⟩ = some vk) (hqs : q < w.heap.size) :
    ValFn 70 #[.pointer (some ⟨q, 0, none⟩)] (heavF r c k) (allL r c) w := by
  intro u m W hm hW hu
  obtain ⟨hmk, hI, -⟩ := allL_mk he hm
  obtain ⟨hkm, hwt⟩ := sizeB_wt hsz
  have hk2 := inMat_below hk hW
  rw [hkm] at hk2
  have hu2 := hu
  rw [hmk] at hu2
  have HB := hide (blackWeight_any vk u r.length c.length (cellM k) (cellM m) W hk2 hu2 hI hwt)
  have HF : Hid (heavF r c k m = wtS r.length c.length (cellM k) (cellM m)) := hide rfl
  rw [HF.out]
  have hq2 := below_cell hW hqs hq
  obtain ⟨ak, ck, rfl, -, -⟩ := hk
  obtain ⟨au, cu, rfl, -, -⟩ := hu
  obtain ⟨S, hS⟩ : ∃ S, S = wtS r.length c.length (cellM k) (cellM m) := ⟨_, rfl⟩
  rw [← hS] at HB ⊢
  generalize k.length = K at *
  generalize m.length = M at *
  clear hq hW hk2 hu2 hI hwt hkm hmk hm he hsz hS HF hqs
  go_enter Tryz.func70, Tryz.ntmps70
  go_wp2_with (go_at_call 71; refine HB.out.mono ?_; rintro e w2 ⟨rfl, rfl⟩)
  go_ret
  exact ⟨rfl, Below.refl _ _⟩
def PickRes (m : List (List Int)) (n : Int) (b : Bool) (w : World) (e : Ending) (w' : World) : Prop := ∃ u0, e = .returned (.tuple #[u0, .int .i64 n, .bool b]) ∧ OwnMat w' w.heap.size w'.heap.size u0 m ∧ Below w.heap.size w w'
set_option maxRecDepth 100000 in
set_option maxHeartbeats 2000000 in
theorem implHeaviest_any (va vb vk : Value) (r c : List Int) (k : List (List Int)) (w : World) (ha : RowC w va r) (hb : RowC w vb c) (hk : InMat w vk k) :
    Calls Tryz.prog 28 #[va, vb, vk] w (PickRes (heavP r c k).1 (heavP r c k).2 (heavB r c k) w) := by
  obtain ⟨w1, hw1⟩ : ∃ w1, w1 = w.alloc (.cells #[vk] 22) := ⟨_, rfl⟩
  have B1 := hide (show Below w.heap.size w w1 by rw [hw1]; exact (Below.refl _ w).alloc (Nat.le_refl _) _)
  have hs1 : w1.heap.size = w.heap.size + 1 := by rw [hw1]; simp
  have hq1 : w1.cell? ⟨w.heap.size, 0, none⟩ = some vk := by rw [hw1]; simp [World.cell?_alloc_new]
  have HE := hide (implExists_any va vb r c w1 (inRow_below ha.1 B1.out) (inRow_below hb.1 B1.out))
  cases he : existsOf r c with
  | false =>
    rw [he] at HE
    have HH : Hid (heavB r c k = false) := hide (by rw [heavB, he, Bool.false_and])
    have HP : Hid (heavP r c k = ([], 0)) := hide (by rw [heavP, HH.out]; rfl)
    rw [HH.out, HP.out]
    obtain ⟨-, a1, c1, rfl, -, -⟩ := ha
    obtain ⟨-, a2, c2, rfl, -, -⟩ := hb
    obtain ⟨a3, c3, rfl, -, -⟩ := hk
    generalize r.length = n1 at *
    generalize c.length = n2 at *
    generalize k.length = n3 at *
    clear he HH HP hs1 hq1
    go_enter Tryz.func28, Tryz.ntmps28
    go_wp2_with fail
    rw [← hw1]
    clear hw1
    go_wp2_with (go_at_call 46; refine HE.out.mono ?_; rintro e w2 ⟨rfl, b2⟩; have B2 := hide b2; clear b2)
    refine bodyPost_ret (results_tmp3 rfl _ _ _) rfl ⟨_, rfl, ownMat_nil _ _ _, B1.out.trans (B2.out.mono B1.out.size)⟩
  | true =>
    rw [he] at HE
    obtain ⟨hr5, hc5, -⟩ := sumsOk_yes (existsOf_sums he)
    have HW := hide fun w' (hw : Below w.heap.size w w') => implWeightOk_any vk k r.length c.length w' (inMat_below hk hw)
    have HQC := hide fun w' (hw : Below w1.heap.size w1 w') => below_cell hw (by omega) hq1
    cases hwb : wtB k r.length c.length with
    | false =>
      rw [hwb] at HW
      have HH : Hid (heavB r c k = false) := hide (by rw [heavB, hwb, Bool.and_false])
      have HP : Hid (heavP r c k = ([], 0)) := hide (by rw [heavP, HH.out]; rfl)
      rw [HH.out, HP.out]
      obtain ⟨-, a1, c1, rfl, -, -⟩ := ha
      obtain ⟨-, a2, c2, rfl, -, -⟩ := hb
      obtain ⟨a3, c3, rfl, -, -⟩ := hk
      obtain ⟨n1, hn1⟩ : ∃ n, n = r.length := ⟨_, rfl⟩
      obtain ⟨n2, hn2⟩ : ∃ n, n = c.length := ⟨_, rfl⟩
      obtain ⟨n3, hn3⟩ : ∃ n, n = k.length := ⟨_, rfl⟩
      rw [← hn1, ← hn2] at HE HW
      rw [← hn3] at HW HQC hw1
      rw [← hn1, ← hn2, ← hn3]
      clear he hwb HH HP hs1 hq1 hr5 hc5 hn1 hn2 hn3
      go_enter Tryz.func28, Tryz.ntmps28
      go_wp2_with fail
      rw [← hw1]
      clear hw1
      go_wp2_with (first | (go_at_call 46; refine HE.out.mono ?_; rintro e w2 ⟨rfl, b2⟩; have B2 := hide (B1.out.trans (b2.mono B1.out.size)); have hqc := HQC.out _ b2; clear b2) | (go_at_call 30; refine (HW.out _ B2.out).mono ?_; rintro e w3 ⟨rfl, b3⟩; have B3 := hide (B2.out.trans (b3.mono B2.out.size)); clear b3))
      refine bodyPost_ret (results_tmp3 rfl _ _ _) rfl ⟨_, rfl, ownMat_nil _ _ _, B3.out⟩
    | true =>
      rw [hwb] at HW
      have hsz := wtB_nat hwb
      obtain ⟨hkm, hwt⟩ := sizeB_wt hsz
      have HH : Hid (heavB r c k = true) := hide (by rw [heavB, he, hwb]; rfl)
      have HBI := hide fun w' (hw1' : Below w1.heap.size w1 w') => bestImage_any va vb r c 70 #[.pointer (some ⟨w.heap.size, 0, none⟩)] (heavF r c k) w' (enters_of Tryz.func70 (by kernel_rfl) rfl)
        (rowC_below ha (B1.out.trans (hw1'.mono B1.out.size))) (inRow_below hb.1 (B1.out.trans (hw1'.mono B1.out.size))) (existsOf_sums he) (heavy1_any r c k vk w.heap.size w' (inMat_below hk (B1.out.trans (hw1'.mono B1.out.size))) he hsz (HQC.out _ hw1') (by have := hw1'.size; omega)) (fun m hm => by have := heavF_range he hwt hm; omega)
      obtain ⟨p, hp, -⟩ := bestF_some (vf := heavF r c k) (allL_ne he)
      have HP : Hid (heavP r c k = p) := hide (by rw [heavP, HH.out, pickP, hp]; rfl)
      rw [HH.out, HP.out]
      rw [hp] at HBI
      obtain ⟨-, a1, c1, rfl, -, -⟩ := ha
      obtain ⟨-, a2, c2, rfl, -, -⟩ := hb
      obtain ⟨a3, c3, rfl, -, -⟩ := hk
      obtain ⟨n1, hn1⟩ : ∃ n, n = r.length := ⟨_, rfl⟩
      obtain ⟨n2, hn2⟩ : ∃ n, n = c.length := ⟨_, rfl⟩
      obtain ⟨n3, hn3⟩ : ∃ n, n = k.length := ⟨_, rfl⟩
      rw [← hn1, ← hn2] at HE HW HBI
      rw [← hn3] at HW HQC hw1
      rw [← hn1, ← hn2, ← hn3]
      clear he hwb HH HP hs1 hq1 hr5 hc5 hn1 hn2 hn3 hp hsz hkm hwt
      go_enter Tryz.func28, Tryz.ntmps28
      go_wp2_with fail
      rw [← hw1]
      clear hw1
      go_wp2_with (first | (go_at_call 46; refine HE.out.mono ?_; rintro e w2 ⟨rfl, b2⟩; have B2 := hide b2; have hqc := HQC.out _ b2; clear b2) | (go_at_call 30; refine (HW.out _ (B1.out.trans (B2.out.mono B1.out.size))).mono ?_; rintro e w3 ⟨rfl, b3⟩; have B3 := hide (B2.out.trans (b3.mono B2.out.size)); clear b3) | fail)
      refine (HBI.out _ B3.out).mono ?_
      rintro e w4 ⟨v, g, rfl, h | ⟨m, h1, h2⟩, b4⟩
      · exact absurd h.1 (by simp)
      · obtain rfl := Option.some.inj h1
        have HB4 := hide ((B1.out.trans (B3.out.mono B1.out.size)).trans (b4.mono (B1.out.trans (B3.out.mono B1.out.size)).size))
        have HM := hide (ownMat_mono h2 (B1.out.trans (B3.out.mono B1.out.size)).size (Nat.le_refl _))
        obtain ⟨av, nv, cv, rfl⟩ : ∃ a n c, v = .slice a n c := by obtain ⟨vs, hv, -⟩ := h2; obtain ⟨a, c, h⟩ := own_slice hv; exact ⟨a, _, c, h⟩
        clear h1 h2 b4
        go_wp2
        refine bodyPost_ret (results_tmp3 rfl _ _ _) rfl ⟨_, rfl, HM.out, HB4.out⟩
end Go.Proofs.YtcliiefedmiokaaGreat
/-
  NearestImage of the program.
-/
namespace Go.Proofs.YtcliiefedmiokaaGreat
open Go.RowKit Go.Shelf

def nearN (r c : List Int) (p m : List (List Int)) : Nat := cnt (fun i => imgF r.length c.length (cellM m) i != imgF r.length c.length (cellM p) i) 25
def nearF (r c : List Int) (p m : List (List Int)) : Int := -(nearN r c p m : Int)
def nearB (r c : List Int) (p : List (List Int)) : Bool := existsOf r c && okB p && p.length == r.length && widthM p == c.length
def nearP (r c : List Int) (p : List (List Int)) : List (List Int) × Int := ((pickP (nearF r c p) r c (nearB r c p)).1, -(pickP (nearF r c p) r c (nearB r c p)).2)
theorem nearN_le (r c : List Int) (p m : List (List Int)) : nearN r c p m ≤ 25 := cnt_le _ _
theorem nearP_no {r c : List Int} {p : List (List Int)} (h : nearB r c p = false) : nearP r c p = ([], 0) := by unfold nearP pickP; rw [h]; rfl
theorem img_cellM {R C : Nat} {f : Nat → Nat → Int} (h : Img R C f) : Img R C (cellM (mkM R C f)) := ⟨h.r1, h.r2, h.c1, h.c2, fun y x hy hx => by rw [cell_mk R C f hy hx]; exact h.cell y x hy hx⟩
theorem near1_any (r c : List Int) (p : List (List Int)) (vp : Value) (q : Nat) (w : World) (hp : InMat w vp p) (he : existsOf r c = true) (hpm : p = mkM r.length c.length (cellM p)) (hpI : Img r.length c.length (cellM p)) (hq : w.cell? ⟨q, 0, none⟩ = some vp) (hqs : q < w.heap.size) :
    ValFn 67 #[.pointer (some ⟨q, 0, none⟩)] (nearF r c p) (allL r c) w := by
  intro u m W hm hW hu
  obtain ⟨hmk, hI, -⟩ := allL_mk he hm
  have hp2 := inMat_below hp hW
  rw [hpm] at hp2
  have hu2 := hu
  rw [hmk] at hu2
  have HB := hide (implDistanceOf_yes u vp r.length c.length r.length c.length (cellM m) (cellM p) W hu2 hp2 hI hpI)
  rw [if_pos ⟨rfl, rfl⟩] at HB
  have HF : Hid (nearF r c p m = -((cnt (fun i => imgF r.length c.length (cellM m) i != imgF r.length c.length (cellM p) i) 25 : Nat) : Int)) := hide rfl
  rw [HF.out]
  have hle := cnt_le (fun i => imgF r.length c.length (cellM m) i != imgF r.length c.length (cellM p) i) 25
  obtain ⟨n, hn⟩ : ∃ n, n = cnt (fun i => imgF r.length c.length (cellM m) i != imgF r.length c.length (cellM p) i) 25 := ⟨_, rfl⟩
  rw [← hn] at HB hle ⊢
  have hq2 := below_cell hW hqs hq
  obtain ⟨ak, ck, rfl, -, -⟩ := hp
  obtain ⟨au, cu, rfl, -, -⟩ := hu
  generalize p.length = K at *
  generalize m.length = M at *
  clear hq hW hp2 hu2 hI hpI hpm hmk hm he hn HF hqs
  go_enter Tryz.func67, Tryz.ntmps67
  go_wp2_with (go_at_call 25; refine HB.out.mono ?_; rintro e w2 ⟨rfl, b2⟩; have B2 := hide b2; clear b2)
  go_ret
  exact ⟨rfl, B2.out⟩
set_option maxRecDepth 100000 in
set_option maxHeartbeats 2000000 in
theorem implNearest_any (va vb vp : Value) (r c : List Int) (p : List (List Int)) (w : World) (ha : RowC w va r) (hb : RowC w vb c) (hp : InMat w vp p) :
    Calls Tryz.prog 24 #[va, vb, vp] w (PickRes (nearP r c p).1 (nearP r c p).2 (nearB r c p) w) := by
  obtain ⟨w1, hw1⟩ : ∃ w1, w1 = w.alloc (.cells #[vp] 22) := ⟨_, rfl⟩
  have B1 := hide (show Below w.heap.size w w1 by rw [hw1]; exact (Below.refl _ w).alloc (Nat.le_refl _) _)
  have hs1 : w1.heap.size = w.heap.size + 1 := by rw [hw1]; simp
  have hq1 : w1.cell? ⟨w.heap.size, 0, none⟩ = some vp := by rw [hw1]; simp [World.cell?_alloc_new]
  have HE := hide (implExists_any va vb r c w1 (inRow_below ha.1 B1.out) (inRow_below hb.1 B1.out))
  cases he : existsOf r c with
  | false =>
    rw [he] at HE
    have HH : Hid (nearB r c p = false) := hide (by simp only [nearB, he, Bool.false_and])
    have HP : Hid (nearP r c p = ([], 0)) := hide (nearP_no HH.out)
    rw [HH.out, HP.out]
    obtain ⟨-, a1, c1, rfl, -, -⟩ := ha
    obtain ⟨-, a2, c2, rfl, -, -⟩ := hb
    obtain ⟨a3, c3, rfl, -, -⟩ := hp
    generalize r.length = n1 at *
    generalize c.length = n2 at *
    generalize p.length = n3 at *
    clear he HH HP hs1 hq1
    go_enter Tryz.func24, Tryz.ntmps24
    go_wp2_with fail
    rw [← hw1]
    clear hw1
    go_wp2_with (go_at_call 46; refine HE.out.mono ?_; rintro e w2 ⟨rfl, b2⟩; have B2 := hide b2; clear b2)
    refine bodyPost_ret (results_tmp3 rfl _ _ _) rfl ⟨_, rfl, ownMat_nil _ _ _, B1.out.trans (B2.out.mono B1.out.size)⟩
  | true =>
    rw [he] at HE
    obtain ⟨hr5, hc5, -⟩ := sumsOk_yes (existsOf_sums he)
    have HO := hide fun w' (hw : Below w.heap.size w w') => implImageOk_any vp p w' (inMat_below hp hw)
    have HQC := hide fun w' (hw : Below w1.heap.size w1 w') => below_cell hw (by omega) hq1
    cases hok : okB p with
    | false =>
      rw [hok] at HO
      have HH : Hid (nearB r c p = false) := hide (by simp only [nearB, hok, Bool.false_and, Bool.and_false])
      have HP : Hid (nearP r c p = ([], 0)) := hide (nearP_no HH.out)
      rw [HH.out, HP.out]
      obtain ⟨-, a1, c1, rfl, -, -⟩ := ha
      obtain ⟨-, a2, c2, rfl, -, -⟩ := hb
      obtain ⟨a3, c3, rfl, -, -⟩ := hp
      obtain ⟨n1, hn1⟩ : ∃ n, n = r.length := ⟨_, rfl⟩
      obtain ⟨n2, hn2⟩ : ∃ n, n = c.length := ⟨_, rfl⟩
      obtain ⟨n3, hn3⟩ : ∃ n, n = p.length := ⟨_, rfl⟩
      rw [← hn1, ← hn2] at HE
      rw [← hn3] at HO HQC hw1
      rw [← hn1, ← hn2, ← hn3]
      clear he hok HH HP hs1 hq1 hr5 hc5 hn1 hn2 hn3
      go_enter Tryz.func24, Tryz.ntmps24
      go_wp2_with fail
      rw [← hw1]
      clear hw1
      go_wp2_with (first | (go_at_call 46; refine HE.out.mono ?_; rintro e w2 ⟨rfl, b2⟩; have B2 := hide (B1.out.trans (b2.mono B1.out.size)); have hqc := HQC.out _ b2; clear b2) | (go_at_call 37; refine (HO.out _ B2.out).mono ?_; rintro e w3 ⟨rfl, rfl⟩))
      refine bodyPost_ret (results_tmp3 rfl _ _ _) rfl ⟨_, rfl, ownMat_nil _ _ _, B2.out⟩
    | true =>
      rw [hok] at HO
      obtain ⟨R, C, g, hpm, hI⟩ := ok_img hok
      have hR1 := hI.r1; have hC1 := hI.c1; have hR := hI.r2; have hC := hI.c2
      have hp2 := hp
      rw [hpm] at hp2
      obtain ⟨gb, ob, cb, hvp, hgb, hcb⟩ := inMat_img hp2 (by omega) (by omega)
      obtain ⟨g0, o0, c0, hx0, -⟩ := hcb 0 (by omega)
      rw [Nat.add_zero] at hx0
      have HX := hide fun w' (hw : Below w.heap.size w w') => below_cell hw hgb hx0
      have HL : Hid (nearB r c p = (R == r.length && C == c.length)) := hide (by
        unfold nearB
        rw [he, hok, Bool.true_and, Bool.true_and, hpm, mkM_len, width_mkM hR1])
      by_cases h1 : R = r.length
      · by_cases h2 : C = c.length
        · have HH : Hid (nearB r c p = true) := hide (by rw [HL.out, beq_iff_eq.2 h1, beq_iff_eq.2 h2]; rfl)
          have hpI : Img r.length c.length (cellM p) := by rw [hpm, ← h1, ← h2]; exact img_cellM hI
          have hpm2 : p = mkM r.length c.length (cellM p) := by rw [hpm, ← h1, ← h2]; exact (mk_cell R C g).symm
          have HBI := hide fun w' (hw1' : Below w1.heap.size w1 w') => bestImage_any va vb r c 67 #[.pointer (some ⟨w.heap.size, 0, none⟩)] (nearF r c p) w' (enters_of Tryz.func67 (by kernel_rfl) rfl)
            (rowC_below ha (B1.out.trans (hw1'.mono B1.out.size))) (inRow_below hb.1 (B1.out.trans (hw1'.mono B1.out.size))) (existsOf_sums he) (near1_any r c p vp w.heap.size w' (inMat_below hp (B1.out.trans (hw1'.mono B1.out.size))) he hpm2 hpI (HQC.out _ hw1') (by have := hw1'.size; omega)) (fun m hm => by have := nearN_le r c p m; unfold nearF; omega)
          obtain ⟨z, hz, -, hz2, -⟩ := bestF_some (vf := nearF r c p) (allL_ne he)
          have HP : Hid (nearP r c p = (z.1, -z.2)) := hide (by unfold nearP pickP; rw [HH.out, hz]; rfl)
          have hzr : -25 ≤ z.2 ∧ z.2 ≤ 0 := by rw [hz2]; have := nearN_le r c p z.1; unfold nearF; omega
          rw [HH.out, HP.out]
          rw [hz] at HBI
          obtain ⟨-, a1, c1, rfl, -, -⟩ := ha
          obtain ⟨-, a2, c2, rfl, -, -⟩ := hb
          subst hvp
          rw [h1] at hw1 HO HQC
          rw [h2] at HX
          obtain ⟨n1, hn1⟩ : ∃ n, n = r.length := ⟨_, rfl⟩
          obtain ⟨n2, hn2⟩ : ∃ n, n = c.length := ⟨_, rfl⟩
          rw [← hn1] at HE HBI HO HQC hw1
          rw [← hn2] at HE HBI HX
          rw [h1, ← hn1, ← hn2]
          obtain ⟨hr5a, hr5b⟩ := hr5
          have hn10 : 0 < n1 := by omega
          obtain ⟨hz3, hz4⟩ := hzr
          clear he hok HH HP hs1 hq1 hr5a hr5b hc5 hn1 hn2 hz hz2 hpm hpm2 hpI hI hp hp2 hcb hx0 h1 h2 HL hR hC hR1 hC1
          go_enter Tryz.func24, Tryz.ntmps24
          go_wp2_with fail
          rw [← hw1]
          clear hw1
          go_wp2_with (first | (go_at_call 46; refine HE.out.mono ?_; rintro e w2 ⟨rfl, b2⟩; have B2 := hide b2; have hqc := HQC.out _ b2; have hx0 := HX.out _ (B1.out.trans (b2.mono B1.out.size)); clear b2) | (go_at_call 37; refine (HO.out _ (B1.out.trans (B2.out.mono B1.out.size))).mono ?_; rintro e w3 ⟨rfl, rfl⟩) | fail)
          refine (HBI.out _ B2.out).mono ?_
          rintro e w4 ⟨v, gg, rfl, h | ⟨m, h1, h2⟩, b4⟩
          · exact absurd h.1 (by simp)
          · obtain rfl := Option.some.inj h1
            have HB4 := hide ((B1.out.trans (B2.out.mono B1.out.size)).trans (b4.mono (B1.out.trans (B2.out.mono B1.out.size)).size))
            have HM := hide (ownMat_mono h2 (B1.out.trans (B2.out.mono B1.out.size)).size (Nat.le_refl _))
            obtain ⟨av, nv, cv, rfl⟩ : ∃ a n c, v = .slice a n c := by obtain ⟨vs, hv, -⟩ := h2; obtain ⟨a, c, h⟩ := own_slice hv; exact ⟨a, _, c, h⟩
            simp only at hz3 hz4
            clear h1 h2 b4
            go_wp2
            refine bodyPost_ret (results_tmp3 rfl _ _ _) rfl ⟨_, rfl, HM.out, HB4.out⟩
        · have HH : Hid (nearB r c p = false) := hide (by rw [HL.out, beq_eq_false_iff_ne.2 h2, Bool.and_false])
          have HP : Hid (nearP r c p = ([], 0)) := hide (nearP_no HH.out)
          rw [HH.out, HP.out]
          obtain ⟨-, a1, c1, rfl, -, -⟩ := ha
          obtain ⟨-, a2, c2, rfl, -, -⟩ := hb
          subst hvp
          rw [h1] at hw1 HO HQC
          have hne : ((C : Int) != (c.length : Int)) = true := by simp; omega
          obtain ⟨n1, hn1⟩ : ∃ n, n = r.length := ⟨_, rfl⟩
          obtain ⟨n2, hn2⟩ : ∃ n, n = c.length := ⟨_, rfl⟩
          rw [← hn1] at HE HO HQC hw1
          rw [← hn2] at HE hne
          rw [h1, ← hn1, ← hn2]
          have hn10 : 0 < n1 := by omega
          clear he hok HH HP hs1 hq1 hr5 hc5 hn1 hn2 hpm hI hp hp2 hcb hx0 h1 h2 HL
          go_enter Tryz.func24, Tryz.ntmps24
          go_wp2_with fail
          rw [← hw1]
          clear hw1
          go_wp2_with (first | (go_at_call 46; refine HE.out.mono ?_; rintro e w2 ⟨rfl, b2⟩; have B2 := hide (B1.out.trans (b2.mono B1.out.size)); have hqc := HQC.out _ b2; have hx0 := HX.out _ (B1.out.trans (b2.mono B1.out.size)); clear b2) | (go_at_call 37; refine (HO.out _ B2.out).mono ?_; rintro e w3 ⟨rfl, rfl⟩))
          refine bodyPost_ret (results_tmp3 rfl _ _ _) rfl ⟨_, rfl, ownMat_nil _ _ _, B2.out⟩
      · have HH : Hid (nearB r c p = false) := hide (by rw [HL.out, beq_eq_false_iff_ne.2 h1, Bool.false_and])
        have HP : Hid (nearP r c p = ([], 0)) := hide (nearP_no HH.out)
        rw [HH.out, HP.out]
        obtain ⟨-, a1, c1, rfl, -, -⟩ := ha
        obtain ⟨-, a2, c2, rfl, -, -⟩ := hb
        subst hvp
        have hne : ((R : Int) != (r.length : Int)) = true := by simp; omega
        obtain ⟨n1, hn1⟩ : ∃ n, n = r.length := ⟨_, rfl⟩
        obtain ⟨n2, hn2⟩ : ∃ n, n = c.length := ⟨_, rfl⟩
        rw [← hn1, ← hn2] at HE
        rw [← hn1] at hne
        rw [← hn1, ← hn2]
        clear he hok HH HP hs1 hq1 hr5 hc5 hn1 hn2 hpm hI hp hp2 hcb hx0 h1 HL HX
        go_enter Tryz.func24, Tryz.ntmps24
        go_wp2_with fail
        rw [← hw1]
        clear hw1
        go_wp2_with (first | (go_at_call 46; refine HE.out.mono ?_; rintro e w2 ⟨rfl, b2⟩; have B2 := hide (B1.out.trans (b2.mono B1.out.size)); have hqc := HQC.out _ b2; clear b2) | (go_at_call 37; refine (HO.out _ B2.out).mono ?_; rintro e w3 ⟨rfl, rfl⟩))
        refine bodyPost_ret (results_tmp3 rfl _ _ _) rfl ⟨_, rfl, ownMat_nil _ _ _, B2.out⟩
end Go.Proofs.YtcliiefedmiokaaGreat
/-
  hasSwitch of the program.
-/
namespace Go.Proofs.YtcliiefedmiokaaGreat
open Go.RowKit

theorem exec_loadVec {P : Program} {ρ : Operand → Value} {o : Oper} {w : World} {x : Operand} {g n m : Nat} {T T' e : TypeId} {F : Nat → Int} (ho : o.op = .load T' x) (hx : ρ x = .pointer (some ⟨g, 0, none⟩)) (hb : Blk w g T n F) (hu : P.underlying T' = some (.array m e)) (hi : (P.info? T').map (·.size) = some n) :
    (execOp ρ o).run P w = .ok (.value (.agg (vec n F))) w := by
  unfold execOp
  simp only [ho, hx, Instr.loadAt, Instr.sureAddr, Sem.run_bind, Sem.run_pure, Result.andThen_ok, run_loadVar_row w g T T' (vec n F) (0, 0) _ hb hu rfl (by rw [hi, vec_size])]
/-- The whole variable is read, where a guard asks for it. -/
theorem wpList_loadVecW {P : Program} {ops : Array Oper} {rest : List Oper} {o : Oper} {a : Act} {Q : Exit → Act → World → Prop} {W : World} {g n m : Nat} {T T' e : TypeId} {F : Nat → Int} (hb : Blk W g T n F)
    (d : Tmp) (_hd : o.dst = some d) (j : Nat) (want : Bool) (hg : o.guard = some (j, want)) (b : Bool) (hy : yielded ops a.tmps j = some b) (hw : b = want) (x : Operand) (ho : o.op = .load T' x) (hx : a.eval x = .pointer (some ⟨g, 0, none⟩)) (hu : P.underlying T' = some (.array m e)) (hi : (P.info? T').map (·.size) = some n)
    (h : wpList P ops Q rest (a.put o.dst (.agg (vec n F))) W) : wpList P ops Q (o :: rest) a W :=
  wpList_step fun K hK => by rw [if_pos (show Region.wanted o (yielded ops a.tmps) = true by unfold Region.wanted; rw [hg]; simp only [hy, hw, beq_self_eq_true])]; exact wp_load_row T' x ho g hx T (vec n F) (0, 0) _ hb hu rfl (by rw [hi, vec_size]) (hK _ _ h)
theorem exec_fieldSw {ρ : Operand → Value} {o : Oper} {w : World} {x : Operand} {g k : Nat} (ho : o.op = .fieldAddr 77 x k) (hx : ρ x = .pointer (some ⟨g, 0, none⟩)) (hk : k < 4) : (execOp ρ o).run Tryz.prog w = .ok (.value (.pointer (some ⟨g, k, none⟩))) w := by
  unfold execOp
  simp only [ho, hx]
  have : k = 0 ∨ k = 1 ∨ k = 2 ∨ k = 3 := by omega
  rcases this with rfl | rfl | rfl | rfl <;> go_simp
theorem exec_loadInt {ρ : Operand → Value} {o : Oper} {w : World} {x : Operand} {g k : Nat} {z : Int} (ho : o.op = .load 3 x) (hx : ρ x = .pointer (some ⟨g, k, none⟩)) (hc : w.cell? ⟨g, k, none⟩ = some (.int .i64 z)) : (execOp ρ o).run Tryz.prog w = .ok (.value (.int .i64 z)) w := by
  unfold execOp
  simp only [ho, hx]
  go_simp
end Go.Proofs.YtcliiefedmiokaaGreat
/-
  switched of the program: an image after one of its switches.
-/
namespace Go.Proofs.YtcliiefedmiokaaGreat
open Go.RowKit

def pickN (a b i : Nat) : Nat := if i = 0 then a else b
def flipAt (F : Nat → Int) (p : Nat) : Nat → Int := fun j => if j = p then 1 - F p else F j
/-- The cells after the first n of the four. -/
def stepF (F : Nat → Int) (a b c d : Nat) : Nat → Nat → Int
  | 0 => F
  | n + 1 => flipAt (stepF F a b c d n) (5 * pickN a b (n / 2) + pickN c d (n % 2))
theorem stepF_small {F : Nat → Int} (h : ∀ i, F i = -1 ∨ F i = 0 ∨ F i = 1) (a b c d : Nat) : ∀ n i : Nat, -((n : Int) + 1) ≤ stepF F a b c d n i ∧ stepF F a b c d n i ≤ (n : Int) + 2
  | 0, i => by have := h i; unfold stepF; omega
  | n + 1, i => by
    have h1 := stepF_small h a b c d n i
    have h2 := stepF_small h a b c d n (5 * pickN a b (n / 2) + pickN c d (n % 2))
    unfold stepF flipAt
    split <;> omega
theorem stepF_all {F : Nat → Int} {a b c d : Nat} (hab : a ≠ b) (hcd : c ≠ d) (hc : c < 5) (hd : d < 5) : ∀ i, i < 25 → stepF F a b c d 4 i = if (i / 5 = a ∨ i / 5 = b) ∧ (i % 5 = c ∨ i % 5 = d) then 1 - F i else F i := by
  intro i hi
  have e : stepF F a b c d 4 = flipAt (flipAt (flipAt (flipAt F (5 * a + c)) (5 * a + d)) (5 * b + c)) (5 * b + d) := rfl
  rw [e]
  unfold flipAt
  by_cases h1 : i = 5 * a + c
  · subst h1
    rw [if_neg (by omega), if_neg (by omega), if_neg (by omega), if_pos rfl, if_pos (by omega)]
  · by_cases h2 : i = 5 * a + d
    · subst h2
      rw [if_neg (by omega), if_neg (by omega), if_pos rfl, if_neg (by omega), if_pos (by omega)]
    · by_cases h3 : i = 5 * b + c
      · subst h3
        rw [if_neg (by omega), if_pos rfl, if_neg (by omega), if_neg (by omega), if_pos (by omega)]
      · by_cases h4 : i = 5 * b + d
        · subst h4
          rw [if_pos rfl, if_neg (by omega), if_neg (by omega), if_neg (by omega), if_pos (by omega)]
        · rw [if_neg h4, if_neg h3, if_neg h2, if_neg h1, if_neg (by omega)]
theorem stepF_img {R C : Nat} {f : Nat → Nat → Int} {a b c d : Nat} (h : four R C f a b c d = true) (hC : C ≤ 5) : ∀ i, i < 25 → stepF (imgF R C f) a b c d 4 i = imgF R C (flipN f a b c d) i := by
  obtain ⟨h1, h2, h3, h4, -⟩ := four_iff.1 h
  intro i hi
  rw [stepF_all (by omega) (by omega) (by omega) (by omega) i hi]
  unfold imgF flipN
  by_cases hh : i / 5 < R ∧ i % 5 < C
  · rw [if_pos hh, if_pos hh]
  · rw [if_neg hh, if_neg hh, if_neg]
    omega
theorem vec_two (a b : Nat) : #[Value.int .i64 (a : Int), Value.int .i64 (b : Int)] = vec 2 fun i => ((pickN a b i : Nat) : Int) := rfl
theorem swAt_set {w : World} {g : Nat} {s : Sw} (h : SwAt w g s) (a : Addr) (v : Value) (hne : g ≠ a.block) : SwAt (w.setCell a v) g s := by
  unfold SwAt; rw [heap_setCell_other w a g v hne]; exact h
theorem exec_indexAt {P : Program} {ρ : Operand → Value} {o : Oper} {w : World} {x i : Operand} {T E : TypeId} {g b m s : Nat} (k q : Nat) (ho : o.op = .indexAddr T x i) (hx : ρ x = .pointer (some ⟨g, b, none⟩)) (hi : ρ i = .int .i64 k) (hu : P.underlying T = some (.array m E)) (hs : ∀ w, (sizeOf E).run P w = .ok s w) (hk : k < m) (hq : b + k * s = q) :
    (execOp ρ o).run P w = .ok (.value (.pointer (some ⟨g, q, none⟩))) w := by
  subst hq
  unfold execOp
  simp only [ho, hx, hi, Instr.indexAt, Instr.sureAddr, Sem.run_bind, asIntOf, Sem.run_pure, Result.andThen_ok, run_underlying hu]
  rw [if_pos ⟨by omega, by omega⟩]
  simp only [Sem.run_bind, hs, Result.andThen_ok, Int.toNat_natCast, addr_add]
  simp
theorem exec_storeInt {ρ : Operand → Value} {o : Oper} {w : World} {x y : Operand} {g k : Nat} {u v : Int} (ho : o.op = .store 3 x y) (hx : ρ x = .pointer (some ⟨g, k, none⟩)) (hy : ρ y = .int .i64 v) (h1 : w.cell? ⟨g, k, none⟩ = some (.int .i64 u)) (f1 : w.frozen? ⟨g, k, none⟩ = false) :
    (execOp ρ o).run Tryz.prog w = .ok .skip (w.setCell ⟨g, k, none⟩ (.int .i64 v)) := by
  unfold execOp
  simp only [ho, hx, hy]
  go_simp

end Go.Proofs.YtcliiefedmiokaaGreat
/-
  A map of switches keyed by images, told by its entries.
-/
namespace Go.Proofs.YtcliiefedmiokaaGreat
open Go.RowKit
set_option maxRecDepth 100000

theorem Tryz.laidOutM : laidOutB Tryz.prog = true := by kernel_rfl
theorem Tryz.keyTyM : Tryz.prog.keyType 84 = true := by kernel_rfl
theorem Tryz.cellsImg : Tryz.prog.cellsOf 84 = 25 := by kernel_rfl
theorem Tryz.cellsRow5 : Tryz.prog.cellsOf 82 = 5 := by kernel_rfl
theorem Tryz.cellsI : Tryz.prog.cellsOf 3 = 1 := by kernel_rfl
theorem Tryz.imgLaw : Maps.Keyed Tryz.prog 84 := Maps.Keyed.of_law (deep_law_gate Tryz.laidOutM (of_decide_eq_true (by kernel_rfl)) (of_decide_eq_true (by kernel_rfl)) Tryz.keyTyM (by rw [Tryz.underlying84]))
theorem mapM_some {α β : Type} (f : α → Option β) : ∀ l : List α, (∀ x ∈ l, ∃ y, f x = some y) → ∃ ys, l.mapM f = some ys
  | [], _ => ⟨[], rfl⟩
  | x :: l, h => by
    obtain ⟨y, hy⟩ := h x (by simp)
    obtain ⟨ys, hys⟩ := mapM_some f l fun z hz => h z (by simp [hz])
    exact ⟨y :: ys, by simp [List.mapM_cons, hy, hys]⟩
theorem intLitM (d : Nat) (x : Int) (h : (Lit.int .i64 x).wf = true) : ∃ l, Tryz.prog.keyLits (d + 1) 3 [.int .i64 x] = some l := by
  unfold Program.keyLits
  rw [Tryz.underlying3]
  exact ⟨_, if_pos ⟨rfl, h⟩⟩
theorem rowLitM (d : Nat) (F : Nat → Int) (h : ∀ i, (Lit.int .i64 (F i)).wf = true) : ∃ l, Tryz.prog.keyLits (d + 2) 82 (vecL 5 F) = some l := by
  unfold Program.keyLits
  rw [Tryz.underlying82]
  simp only [Tryz.cellsRow5, Tryz.cellsI, vecL_len, if_true]
  obtain ⟨ys, hys⟩ := mapM_some (fun i => Tryz.prog.keyLits (d + 1) 3 (((vecL 5 F).drop (i * 1)).take 1)) (List.range 5) fun i hi => by
    have hi' := List.mem_range.1 hi
    have e : ((vecL 5 F).drop (i * 1)).take 1 = [.int .i64 (F i)] := by
      apply List.ext_getElem
      · simp [vecL]; omega
      · intro j h1 h2
        obtain rfl : j = 0 := by simp at h2; omega
        simp [vecL]
    obtain ⟨l, hl⟩ := intLitM d (F i) (h i)
    exact ⟨l, by rw [e]; exact hl⟩
  exact ⟨ys.flatten, by rw [hys]; rfl⟩
theorem imgLitM (d : Nat) (F : Nat → Int) (h : ∀ i, (Lit.int .i64 (F i)).wf = true) : ∃ l, Tryz.prog.keyLits (d + 3) 84 (vecL 25 F) = some l := by
  unfold Program.keyLits
  rw [Tryz.underlying84]
  simp only [Tryz.cellsImg, Tryz.cellsRow5, vecL_len, if_true]
  obtain ⟨ys, hys⟩ := mapM_some (fun i => Tryz.prog.keyLits (d + 2) 82 (((vecL 25 F).drop (i * 5)).take 5)) (List.range 5) fun i hi => by
    have hi' := List.mem_range.1 hi
    have e : ((vecL 25 F).drop (i * 5)).take 5 = vecL 5 fun j => F (i * 5 + j) := by
      apply List.ext_getElem
      · simp [vecL]; omega
      · intro j h1 h2
        simp [vecL]
    obtain ⟨l, hl⟩ := rowLitM d (fun j => F (i * 5 + j)) fun j => h _
    exact ⟨l, by rw [e]; exact hl⟩
  exact ⟨ys.flatten, by rw [hys]; rfl⟩
/-- Cells of an image. -/
def WfI (F : Nat → Int) : Prop := ∀ i, F i = -1 ∨ F i = 0 ∨ F i = 1
theorem wfI_lit {F : Nat → Int} (h : WfI F) (i : Nat) : (Lit.int .i64 (F i)).wf = true := by
  rcases h i with e | e | e <;> rw [e] <;> decide
theorem img_key {F : Nat → Int} (h : WfI F) : ∃ l, keyOf Tryz.prog 84 (.agg (vec 25 F)) = some l := by
  have hs : ∃ d, Tryz.prog.types.size + 1 = d + 3 := ⟨Tryz.prog.types.size - 2, by have : 3 ≤ Tryz.prog.types.size := of_decide_eq_true (by kernel_rfl); omega⟩
  obtain ⟨d, hd⟩ := hs
  obtain ⟨L, hL⟩ := imgLitM d F (wfI_lit h)
  have hf : (Value.agg (vec 25 F)).formed Tryz.prog 84 = true := by
    simp [Value.formed, Tryz.underlying84, Tryz.cellsImg, vec_size]
  have hc : (Value.agg (vec 25 F)).cells.toList = vecL 25 F := by simp [Value.cells, vec]
  refine ⟨.string (keyBytes L), ?_⟩
  unfold keyOf
  rw [Tryz.underlying84]
  simp only [Tryz.keyTyM, hf, Bool.and_self, if_true, hc, hd, hL, Option.map_some]
/-- The map in block b holds these entries, in this order. -/
def ImgMap (w : World) (b : Nat) (ks : List ((Nat → Int) × Sw)) : Prop :=
  ∃ (es : Array MapEntry) (clock : Nat), w.heap[b]? = some (.map es clock) ∧ es.toList.map (fun e => (e.key, e.val)) = (ks.map fun p => (Value.agg (vec 25 p.1), swV p.2)) ∧ MapKept.Stamped es clock
theorem imgMap_lt {w : World} {b : Nat} {ks : List ((Nat → Int) × Sw)} (h : ImgMap w b ks) : b < w.heap.size := by
  obtain ⟨es, c, hb, -⟩ := h
  exact (Array.getElem?_eq_some_iff.1 hb).1
theorem imgMap_heap {w w' : World} {b : Nat} {ks : List ((Nat → Int) × Sw)} (h : ImgMap w b ks) (e : w'.heap[b]? = w.heap[b]?) : ImgMap w' b ks := by
  obtain ⟨es, c, hb, hk⟩ := h
  exact ⟨es, c, e.trans hb, hk⟩
theorem imgMap_below {w w' : World} {b : Nat} {ks : List ((Nat → Int) × Sw)} (h : ImgMap w b ks) (hb : Below w.heap.size w w') : ImgMap w' b ks := imgMap_heap h (hb.block b (imgMap_lt h))
theorem imgMap_grown {w w' : World} {b : Nat} {ks : List ((Nat → Int) × Sw)} {row : Option Nat} (h : ImgMap w b ks) (hg : w.grownBy w' row) (hr : row ≠ some b) : ImgMap w' b ks := imgMap_heap h (hg.block b (imgMap_lt h) (Ne.symm hr))
theorem imgMap_made (w : World) : ImgMap (w.alloc (.map #[] 0)) w.heap.size [] := ⟨#[], 0, heap_alloc_new w _, rfl, MapKept.stamped_empty 0⟩
theorem own_not_map {w : World} {b1 e1 n1 z1 b : Nat} {v1 : Value} {xs : List Value} {ks : List ((Nat → Int) × Sw)} (h1 : w.ownsRow b1 e1 z1 v1 n1 xs) (h2 : ImgMap w b ks) : v1.ownBlock ≠ some b := by
  obtain ⟨es, c, hb, -⟩ := h2
  rcases h1.2 with ⟨rfl, _⟩ | ⟨g1, c1, cur1, rfl, _, hg1, _⟩
  · simp [Value.ownBlock]
  · intro e
    simp only [Value.ownBlock, Option.some.injEq] at e
    subst e
    rw [hg1] at hb; cases hb
theorem imgMap_keys {es : Array MapEntry} {ks : List ((Nat → Int) × Sw)} (hk : es.toList.map (fun e => (e.key, e.val)) = ks.map fun p => (Value.agg (vec 25 p.1), swV p.2)) (hw : ∀ p ∈ ks, WfI p.1) : ∀ e ∈ es.toList, ∃ l, keyOf Tryz.prog 84 e.key = some l := by
  intro e he
  have h1 : (e.key, e.val) ∈ es.toList.map (fun e => (e.key, e.val)) := List.mem_map.2 ⟨e, he, rfl⟩
  rw [hk] at h1
  obtain ⟨p, hp, hpe⟩ := List.mem_map.1 h1
  simp only [Prod.mk.injEq] at hpe
  obtain ⟨l, hl⟩ := img_key (hw p hp)
  exact ⟨l, by rw [← hpe.1]; exact hl⟩
end Go.Proofs.YtcliiefedmiokaaGreat
/-
  pairsBelow of the program: all pairs of numbers below 5, in order.
-/
namespace Go.Proofs.YtcliiefedmiokaaGreat
open Go.RowKit

def cellsP (l : List (Nat × Nat)) : List Value := l.flatMap fun p => [.int .i64 (p.1 : Int), .int .i64 (p.2 : Int)]
theorem cellsP_snoc (l : List (Nat × Nat)) (a b : Nat) : cellsP (l ++ [(a, b)]) = cellsP l ++ #[Value.int .i64 (a : Int), .int .i64 (b : Int)].toList := by simp [cellsP]
/-- The pairs up to a number. -/
def upP (k : Nat) : List (Nat × Nat) := ((List.range k).filter fun c => decide (c / 5 < c % 5)).map fun c => (c / 5, c % 5)
theorem upP_yes {k : Nat} (h : k / 5 < k % 5) : upP (k + 1) = upP k ++ [(k / 5, k % 5)] := by
  unfold upP; rw [List.range_succ, List.filter_append, List.map_append]; simp [h]
theorem upP_no {k : Nat} (h : ¬ k / 5 < k % 5) : upP (k + 1) = upP k := by
  unfold upP; rw [List.range_succ, List.filter_append, List.map_append]; simp [h]
theorem upP_skip {k l : Nat} (hkl : k ≤ l) (h : ∀ i, k ≤ i → i < l → ¬ i / 5 < i % 5) : upP l = upP k := by
  induction l with
  | zero => obtain rfl : k = 0 := by omega
            rfl
  | succ l ih =>
    by_cases e : k = l + 1
    · rw [e]
    · rw [upP_no (h l (by omega) (by omega)), ih (by omega) fun i h1 h2 => h i h1 (by omega)]
theorem upP_len (k : Nat) : (upP k).length ≤ k := by
  unfold upP; rw [List.length_map]
  exact Nat.le_trans (List.length_filter_le _ _) (by rw [List.length_range]; exact Nat.le_refl _)
end Go.Proofs.YtcliiefedmiokaaGreat
/-
  switches of the program: all switches of an image, in order.
-/
namespace Go.Proofs.YtcliiefedmiokaaGreat
open Go.RowKit

def kp (p : Nat) : Nat := [1, 2, 3, 4, 7, 8, 9, 13, 14, 19].getD p 25
theorem pairs_len : (upP 25).length = 10 := by decide +kernel
theorem pairs_at : ∀ p, p < 10 → (upP 25)[p]? = some (kp p / 5, kp p % 5) := by decide +kernel
theorem kp_in : ∀ p, p < 10 → kp p < 25 ∧ kp p / 5 < kp p % 5 := by decide +kernel
theorem kp_next : ∀ p, p < 10 → kp p < kp (p + 1) ∧ kp (p + 1) ≤ 25 ∧ ∀ c, c < 25 → kp p < c → c < kp (p + 1) → ¬ c / 5 < c % 5 := by decide +kernel
theorem kp_zero : kp 0 = 1 := rfl
theorem kp_ten : kp 10 = 25 := rfl
theorem cellsP_at : ∀ (l : List (Nat × Nat)) (i a b : Nat), l[i]? = some (a, b) → (cellsP l)[i * 2]? = some (.int .i64 (a : Int)) ∧ (cellsP l)[i * 2 + 1]? = some (.int .i64 (b : Int))
  | [], i, a, b, h => by simp at h
  | p :: l, 0, a, b, h => by
    simp only [List.getElem?_cons_zero, Option.some.injEq] at h
    subst h
    exact ⟨rfl, rfl⟩
  | p :: l, i + 1, a, b, h => by
    have := cellsP_at l i a b (by simpa using h)
    have e : cellsP (p :: l) = [.int .i64 (p.1 : Int), .int .i64 (p.2 : Int)] ++ cellsP l := by simp [cellsP]
    rw [e]
    refine ⟨?_, ?_⟩
    · rw [List.getElem?_append_right (by simp; omega)]
      simpa [show (i + 1) * 2 - 2 = i * 2 by omega] using this.1
    · rw [List.getElem?_append_right (by simp; omega)]
      simpa [show (i + 1) * 2 + 1 - 2 = i * 2 + 1 by omega] using this.2
theorem swB_order {m : List (List Int)} {i : Nat} (h : ¬ (i / 125 < i / 25 % 5 ∧ i / 5 % 5 < i % 5)) : swB m (decS i) = false := by
  rw [Bool.eq_false_iff]
  intro e
  obtain ⟨a, b, c, d, e1, h1⟩ := swF_iff.1 e
  obtain ⟨h2, h3, -⟩ := four_iff.1 h1
  unfold decS at e1
  simp only [Sw.mk.injEq] at e1
  omega
theorem dec_pair (p q : Nat) (hq : q < 25) : decS (25 * p + q) = ⟨((p / 5 : Nat) : Int), ((p % 5 : Nat) : Int), ((q / 5 : Nat) : Int), ((q % 5 : Nat) : Int)⟩ := by
  unfold decS
  rw [show (25 * p + q) / 125 = p / 5 by omega, show (25 * p + q) / 25 % 5 = p % 5 by omega, show (25 * p + q) / 5 % 5 = q / 5 by omega, show (25 * p + q) % 5 = q % 5 by omega]
theorem upS_in (m : List (List Int)) (p : Nat) : upS m (25 * p + kp 0) = upS m (25 * p) :=
  upS_skip (by omega) fun i h1 h2 => swB_order (by rw [kp_zero] at h2; omega)
theorem upS_q (m : List (List Int)) (p q : Nat) (hq : q < 10) : upS m (25 * p + kp (q + 1)) = upS m (25 * p + kp q + 1) := by
  obtain ⟨h1, h2, h3⟩ := kp_next q hq
  refine upS_skip (by omega) fun i g1 g2 => swB_order ?_
  have := h3 (i - 25 * p) (by omega) (by omega) (by omega)
  omega
theorem upS_p (m : List (List Int)) (p : Nat) (hp : p < 10) : upS m (25 * kp (p + 1)) = upS m (25 * kp p + kp 10) := by
  obtain ⟨h1, h2, h3⟩ := kp_next p hp
  rw [kp_ten]
  refine upS_skip (by omega) fun i g1 g2 => swB_order ?_
  have := h3 (i / 25) (by omega) (by omega) (by omega)
  omega
theorem upS_first (m : List (List Int)) : upS m (25 * kp 0) = [] := by
  rw [upS_skip (k := 0) (by omega) fun i _ h2 => swB_order (by rw [kp_zero] at h2; omega)]; rfl
theorem own_not_blk {w : World} {b1 e1 n1 z1 g n : Nat} {T : TypeId} {F : Nat → Int} {v1 : Value} {xs : List Value} (h1 : w.ownsRow b1 e1 z1 v1 n1 xs) (h2 : Blk w g T n F) (hne : e1 ≠ T) : v1.ownBlock ≠ some g := by
  rcases h1.2 with ⟨rfl, _⟩ | ⟨g1, c1, cur1, rfl, _, hg1, _⟩
  · simp [Value.ownBlock]
  · intro e
    simp only [Value.ownBlock, Option.some.injEq] at e
    subst e
    unfold Blk at h2
    rw [hg1] at h2
    simp only [Option.some.injEq, Obj.cells.injEq] at h2
    exact hne h2.2.1
end Go.Proofs.YtcliiefedmiokaaGreat
/-
  What the search meets: images as keys, a queue of images, the map of the last switches.
-/
namespace Go.Proofs.YtcliiefedmiokaaGreat
open Go.RowKit
set_option maxRecDepth 100000

theorem vec_inj {n : Nat} {F G : Nat → Int} (h : vec n F = vec n G) : ∀ i, i < n → F i = G i := fun i hi => by
  have h1 := vec_at n F i hi
  rw [h, vec_at n G i hi] at h1
  simpa using h1.symm
/-- The cells of an image, by number. -/
def imgC (R C : Nat) (x : List (List Int)) : Nat → Int := imgF R C (cellM x)
theorem imgC_mk (R C : Nat) (f : Nat → Nat → Int) : imgC R C (mkM R C f) = imgF R C f := by
  funext i
  unfold imgC imgF
  by_cases h : i / 5 < R ∧ i % 5 < C
  · rw [if_pos h, if_pos h]; exact cell_mk R C f h.1 h.2
  · rw [if_neg h, if_neg h]
theorem imgC_wf {R C : Nat} {x : List (List Int)} (h : Node R C x) : WfI (imgC R C x) := by
  obtain ⟨f, rfl, hI⟩ := h
  rw [imgC_mk]; exact fun i => imgF_range hI i
theorem imgC_inj {R C : Nat} {x y : List (List Int)} (hx : Node R C x) (hy : Node R C y) (h : vec 25 (imgC R C x) = vec 25 (imgC R C y)) : x = y := by
  obtain ⟨f, rfl, hI⟩ := hx
  obtain ⟨g, rfl, -⟩ := hy
  have h5 := hI.r2; have h6 := hI.c2
  rw [imgC_mk, imgC_mk] at h
  exact mkM_congr fun y x hy hx => by
    have h1 := vec_inj h (5 * y + x) (by omega)
    rw [imgF_at R C f y x (by omega), imgF_at R C g y x (by omega), if_pos ⟨hy, hx⟩, if_pos ⟨hy, hx⟩] at h1
    exact h1
/-- Whether two images are the same. -/
theorem img_key2 {F : Nat → Int} (h : WfI F) : ∃ L, Tryz.prog.keyLits (Tryz.prog.types.size + 1) 84 (vecL 25 F) = some L ∧ (Value.agg (vec 25 F)).formed Tryz.prog 84 = true ∧ keyOf Tryz.prog 84 (.agg (vec 25 F)) = some (.string (keyBytes L)) := by
  have hs : ∃ d, Tryz.prog.types.size + 1 = d + 3 := ⟨Tryz.prog.types.size - 2, by have : 3 ≤ Tryz.prog.types.size := of_decide_eq_true (by kernel_rfl); omega⟩
  obtain ⟨d, hd⟩ := hs
  obtain ⟨L, hL⟩ := imgLitM d F (wfI_lit h)
  have hf : (Value.agg (vec 25 F)).formed Tryz.prog 84 = true := by
    simp [Value.formed, Tryz.underlying84, Tryz.cellsImg, vec_size]
  have hc : (Value.agg (vec 25 F)).cells.toList = vecL 25 F := by simp [Value.cells, vec]
  refine ⟨L, by rw [hd]; exact hL, hf, ?_⟩
  unfold keyOf
  rw [Tryz.underlying84]
  simp only [Tryz.keyTyM, hf, Bool.and_self, if_true, hc, hd, hL, Option.map_some]
theorem run_eqImg {F G : Nat → Int} (hF : WfI F) (hG : WfI G) (b : Bool) (hb : b = true ↔ vec 25 F = vec 25 G) (w : World) : (binOp .eql 84 (.agg (vec 25 F)) (.agg (vec 25 G))).run Tryz.prog w = .ok (.bool b) w := by
  obtain ⟨la, ha, fa, ka⟩ := img_key2 hF
  obtain ⟨lb, hl, fb, kb⟩ := img_key2 hG
  have hm : Tryz.prog.types.size + 1 ≤ 10000 := of_decide_eq_true (by kernel_rfl)
  obtain ⟨r, hr, hiff⟩ := run_equalIn_deep (10000 - (Tryz.prog.types.size + 1)) (Tryz.prog.types.size + 1) 84 Tryz.keyTyM w _ _ (.agg (vec 25 F)) (.agg (vec 25 G)) la lb fa fb (by rw [show (Value.agg (vec 25 F)).cells.toList = vecL 25 F by simp [Value.cells, vec]]; exact ha) (by rw [show (Value.agg (vec 25 G)).cells.toList = vecL 25 G by simp [Value.cells, vec]]; exact hl)
  rw [show 10000 - (Tryz.prog.types.size + 1) + (Tryz.prog.types.size + 1) = 10000 by omega] at hr
  have he : r = b := by
    rw [Bool.eq_iff_iff, hiff, hb]
    constructor
    · intro e
      subst e
      have := Tryz.imgLaw.inj ka kb
      simpa using this
    · intro e
      have e2 : vecL 25 F = vecL 25 G := by simpa [vec] using e
      rw [e2, hl] at ha
      exact (Option.some.inj ha).symm
  rw [← he]
  simp only [binOp]
  simp [Op.equal, Op.maxDepth, hr]

/-- The cells of images, one behind the other. -/
def queL (R C : Nat) (l : List (List (List Int))) : List Value := l.flatMap fun x => vecL 25 (imgC R C x)
theorem queL_nil (R C : Nat) : queL R C [] = [] := rfl
theorem queL_cons (R C : Nat) (x : List (List Int)) (l : List (List (List Int))) : queL R C (x :: l) = vecL 25 (imgC R C x) ++ queL R C l := by simp [queL]
theorem queL_snoc (R C : Nat) (x : List (List Int)) (l : List (List (List Int))) : queL R C (l ++ [x]) = queL R C l ++ vecL 25 (imgC R C x) := by simp [queL]
theorem queL_tail (R C : Nat) (l : List (List (List Int))) {a : Nat} (h : a < l.length) : (queL R C (l.drop a)).drop 25 = queL R C (l.drop (a + 1)) := by
  rw [List.drop_eq_getElem_cons h, queL_cons, List.drop_append_of_le_length (by rw [vecL_len]; exact Nat.le_refl _), List.drop_of_length_le (by rw [vecL_len]; exact Nat.le_refl _), List.nil_append]
theorem queL_head {R C : Nat} {l : List (List (List Int))} {a : Nat} (h : a < l.length) : queL R C (l.drop a) = vecL 25 (imgC R C (l.getD a [])) ++ queL R C (l.drop (a + 1)) := by
  rw [List.drop_eq_getElem_cons h, queL_cons]
  simp [List.getD_eq_getElem?_getD, List.getElem?_eq_getElem h]
theorem ownQ_head {w : World} {base n : Nat} {v : Value} {F : Nat → Int} {ys : List Value} (h : OwnQ w base 84 25 v (n + 1) (vecL 25 F ++ ys)) :
    ∃ g o cap, v = .slice (some ⟨g, o, none⟩) (n + 1) cap ∧ n + 1 ≤ cap ∧ base ≤ g ∧ g < w.heap.size ∧ w.rangeAt g o (vecL 25 F) := by
  obtain ⟨g, o, cap, rfl, h1, -, h2, h3, h4⟩ := ownQ_slice h
  refine ⟨g, o, cap, rfl, h1, h2, h3, fun j u hj => ?_⟩
  have hj' : j < 25 := by have := (List.getElem?_eq_some_iff.1 hj).1; rwa [vecL_len] at this
  rw [h4 j (by omega), List.getElem?_append_left (by rw [vecL_len]; exact hj')]
  exact hj
/-- The last switch of a list. -/
def lastS (p : List Sw) : Sw := p.getLastD zeroSw
theorem lastS_snoc (p : List Sw) (s : Sw) : lastS (p ++ [s]) = s := by simp [lastS]
/-- The entries of the map. -/
def ksOf (R C : Nat) (L : List (List (List Int))) (W : List (List Sw)) : List ((Nat → Int) × Sw) := (List.range L.length).map fun i => (imgC R C (L.getD i []), lastS (W.getD i []))
theorem ksOf_len (R C : Nat) (L : List (List (List Int))) (W : List (List Sw)) : (ksOf R C L W).length = L.length := by simp [ksOf]
theorem ksOf_snoc {R C : Nat} {L : List (List (List Int))} {W : List (List Sw)} (hl : W.length = L.length) (x : List (List Int)) (p : List Sw) : ksOf R C (L ++ [x]) (W ++ [p]) = ksOf R C L W ++ [(imgC R C x, lastS p)] := by
  unfold ksOf
  rw [List.length_append, List.length_singleton, List.range_succ, List.map_append]
  have e1 := getD_snoc_eq W p []
  rw [hl] at e1
  rw [List.map_singleton, getD_snoc_eq, e1]
  congr 1
  refine List.map_congr_left fun i hi => ?_
  have hi := List.mem_range.1 hi
  rw [getD_snoc_lt _ _ _ hi, getD_snoc_lt _ _ _ (by rw [hl]; exact hi)]
theorem ksOf_mem {R C : Nat} {L : List (List (List Int))} {W : List (List Sw)} {p : (Nat → Int) × Sw} (h : p ∈ ksOf R C L W) : ∃ i, i < L.length ∧ p = (imgC R C (L.getD i []), lastS (W.getD i [])) := by
  unfold ksOf at h
  obtain ⟨i, hi, rfl⟩ := List.mem_map.1 h
  exact ⟨i, List.mem_range.1 hi, rfl⟩
theorem ksOf_at {R C : Nat} {L : List (List (List Int))} {W : List (List Sw)} {i : Nat} (h : i < L.length) : (imgC R C (L.getD i []), lastS (W.getD i [])) ∈ ksOf R C L W := List.mem_map.2 ⟨i, List.mem_range.2 h, rfl⟩
section
variable {R C : Nat} {m : List (List Int)} {L : List (List (List Int))} {W : List (List Sw)} {a K : Nat}
theorem ksOf_wf (hm : Node R C m) (h : Bfs m L W a K) : ∀ p ∈ ksOf R C L W, WfI p.1 := fun p hp => by
  obtain ⟨i, hi, rfl⟩ := ksOf_mem hp
  exact imgC_wf (bfs_node hm h hi)
theorem ksOf_in (hm : Node R C m) (h : Bfs m L W a K) {x : List (List Int)} (hx : Node R C x) : (∃ p ∈ ksOf R C L W, vec 25 p.1 = vec 25 (imgC R C x)) ↔ x ∈ L := by
  constructor
  · rintro ⟨p, hp, e⟩
    obtain ⟨i, hi, rfl⟩ := ksOf_mem hp
    rw [← imgC_inj (bfs_node hm h hi) hx e]
    exact getD_mem hi
  · intro hx
    obtain ⟨i, hi, rfl⟩ := mem_getD [] hx
    exact ⟨_, ksOf_at hi, rfl⟩
end
/-- The number of the switch before number k. -/
def befS (S : List Sw) : Nat → Nat
  | 0 => 0
  | k + 1 => numS (S.getD k zeroSw)
theorem sws_up (x : List (List Int)) : (swsM x).Pairwise fun s t => numS s < numS t := by
  unfold swsM upS
  rw [List.pairwise_map]
  exact (List.pairwise_lt_range.filter _).imp fun h => by rw [num_dec, num_dec]; omega
theorem sws_num {x : List (List Int)} {i j : Nat} (hij : i < j) (hj : j < (swsM x).length) : numS ((swsM x).getD i zeroSw) < numS ((swsM x).getD j zeroSw) := by
  have h := List.pairwise_iff_getElem.1 (sws_up x) i j (by omega) hj hij
  rw [List.getD_eq_getElem?_getD, List.getD_eq_getElem?_getD, List.getElem?_eq_getElem hj, List.getElem?_eq_getElem (show i < (swsM x).length by omega)]
  exact h
theorem befS_le {x : List (List Int)} {k : Nat} (hk : k < (swsM x).length) : befS (swsM x) k ≤ numS ((swsM x).getD k zeroSw) := by
  cases k with
  | zero => exact Nat.zero_le _
  | succ k => exact Nat.le_of_lt (sws_num (Nat.lt_succ_self k) hk)
theorem befS_all {R C : Nat} {x : List (List Int)} (hx : Node R C x) {k : Nat} (hk : k < (swsM x).length) : ∀ s, swB x s = true → numS s < numS ((swsM x).getD k zeroSw) → numS s ≤ befS (swsM x) k := fun s hs hn => by
  obtain ⟨i, hi, rfl⟩ := mem_getD zeroSw ((sws_mem hx).2 hs)
  have hik : i < k := by
    rcases Nat.lt_trichotomy i k with h | rfl | h
    · exact h
    · omega
    · have := sws_num h hi; omega
  obtain ⟨q, rfl⟩ : ∃ q, k = q + 1 := ⟨k - 1, by omega⟩
  show numS _ ≤ numS _
  by_cases e : i = q
  · subst e; exact Nat.le_refl _
  · exact Nat.le_of_lt (sws_num (show i < q by omega) (by omega))
theorem befS_end {R C : Nat} {x : List (List Int)} (hx : Node R C x) : befS (swsM x) (swsM x).length ≤ 625 ∧ ∀ s, swB x s = true → numS s ≤ befS (swsM x) (swsM x).length := by
  cases hl : (swsM x).length with
  | zero =>
    refine ⟨Nat.zero_le _, fun s hs => ?_⟩
    have := (sws_mem hx).2 hs
    rw [List.eq_nil_of_length_eq_zero hl] at this
    cases this
  | succ k =>
    have hm : (swsM x).getD k zeroSw ∈ swsM x := getD_mem (by omega)
    obtain ⟨i, hi, e⟩ := swB_num hx ((sws_mem hx).1 hm)
    refine ⟨by show numS _ ≤ 625; rw [e, num_dec]; omega, fun s hs => ?_⟩
    obtain ⟨j, hj, rfl⟩ := mem_getD zeroSw ((sws_mem hx).2 hs)
    show numS _ ≤ numS _
    by_cases e : j = k
    · subst e; exact Nat.le_refl _
    · exact Nat.le_of_lt (sws_num (show j < k by omega) (by omega))
theorem sws_at {R C : Nat} {x : List (List Int)} (hx : Node R C x) {k : Nat} (hk : k < (swsM x).length) : swB x ((swsM x).getD k zeroSw) = true := (sws_mem hx).1 (getD_mem hk)
end Go.Proofs.YtcliiefedmiokaaGreat
/-
  searched of the program: a search in breadth.
-/
namespace Go.Proofs.YtcliiefedmiokaaGreat
open Go.RowKit

/-- What stands through the search. -/
def SrSt (w : World) (R C : Nat) (t : List (List Int)) (L : List (List (List Int))) (W : List (List Sw)) (a n : Nat) (q : Value) (w' : World) : Prop :=
  OwnQ w' (w.heap.size + 3) 84 25 q n (queL R C (L.drop a)) ∧ ImgMap w' (w.heap.size + 2) (ksOf R C L W) ∧ Blk w' (w.heap.size + 1) 84 25 (imgC R C t) ∧ w.heap.size + 3 ≤ w'.heap.size ∧ Below w.heap.size w w'
theorem sr_below {w w1 w2 : World} {R C : Nat} {t : List (List Int)} {L : List (List (List Int))} {W : List (List Sw)} {a n : Nat} {q : Value} (h : SrSt w R C t L W a n q w1) (hb : Below w1.heap.size w1 w2) : SrSt w R C t L W a n q w2 :=
  ⟨ownQ_below h.1 hb, imgMap_below h.2.1 hb, blk_below h.2.2.1 hb, Nat.le_trans h.2.2.2.1 hb.size, h.2.2.2.2.trans (hb.mono h.2.2.2.2.size)⟩
/-- What the search answers. -/
def SrRes (R C : Nat) (m t : List (List Int)) (w : World) (e : Ending) (w' : World) : Prop :=
  e = .returned (.map (some (w.heap.size + 2))) ∧ ∃ L W a K, Bfs m L W a K ∧ t ∈ L ∧ ImgMap w' (w.heap.size + 2) (ksOf R C L W) ∧ Below w.heap.size w w' ∧ (t = m → a = L.length)
theorem Tryz.infoImg : (Tryz.prog.info? 84).map (fun i => (i.zero, i.size, i.bytes)) = some (some (.agg (vec 25 fun _ => 0)), 25, 200) := by kernel_rfl
def mapLen (w : World) (b : Nat) : Nat := match w.heap[b]? with | some (.map es _) => es.size | _ => 0
theorem mapLen_of {w : World} {b : Nat} {ks : List ((Nat → Int) × Sw)} (h : ImgMap w b ks) : mapLen w b = ks.length := by
  obtain ⟨es, c, hb, hk, -⟩ := h
  unfold mapLen
  rw [hb]
  have := congrArg List.length hk
  simpa using this
def lenV : Value → Nat
  | .slice _ n _ => n
  | _ => 0
theorem ownQ_lenV {w : World} {base e z n : Nat} {v : Value} {xs : List Value} (h : OwnQ w base e z v n xs) : lenV v = n := by
  obtain ⟨-, g, o, cap, cur, rfl, -⟩ := h; rfl
theorem wpList_tail {P : Program} {ops : Array Oper} {rest : List Oper} {o : Oper} {a : Act} {Q : Exit → Act → World → Prop} {W : World} {base E T n z : Nat} {v : Value} {xs : List Value} (h : OwnQ W base E z v (n + 1) xs)
    (d : Tmp) (_hd : o.dst = some d) (hgd : o.guard = none) (x : Operand) (ho : o.op = .slice T x (some (.const (.int .i64 1))) none none) (hx : a.eval x = v) (hu : P.underlying T = some (.slice E)) (hs : ∀ w, (sizeOf E).run P w = .ok z w)
    (hK : ∀ v', OwnQ W base E z v' n (xs.drop z) → wpList P ops Q rest (a.put o.dst v') W) : wpList P ops Q (o :: rest) a W := by
  refine wpList_plain hgd fun K hk => ?_
  obtain ⟨h0, g, q, cap, cur, rfl, hr⟩ := id h
  unfold Oper.wp
  rw [exec_tail ho rfl hx hr.2.2.1 hu hs]
  exact hk _ _ (hK _ (ownQ_tail h))
theorem wpList_loadQ {P : Program} {ops : Array Oper} {rest : List Oper} {o : Oper} {a : Act} {Q : Exit → Act → World → Prop} {W : World} {g k : Nat} {T : TypeId} {d : TypeDesc} {F : Nat → Int} (h : W.rangeAt g k (vecL 25 F))
    (t : Tmp) (_hd : o.dst = some t) (hgd : o.guard = none) (x : Operand) (ho : o.op = .load T x) (hx : a.eval x = .pointer (some ⟨g, k, none⟩)) (hu : P.underlying T = some d) (hr : d.isRow = true) (hi : (P.info? T).map (·.size) = some 25)
    (hK : wpList P ops Q rest (a.put o.dst (.agg (vec 25 F))) W) : wpList P ops Q (o :: rest) a W :=
  wpList_load_mid hgd T x ho g k hx (vecL 25 F) d h hu hr (by rw [hi, vecL_len]) hK
theorem exec_loadQ {P : Program} {ρ : Operand → Value} {o : Oper} {W : World} {g k : Nat} {T : TypeId} {d : TypeDesc} {F : Nat → Int} {x : Operand} (h : W.rangeAt g k (vecL 25 F)) (ho : o.op = .load T x) (hx : ρ x = .pointer (some ⟨g, k, none⟩)) (hu : P.underlying T = some d) (hr : d.isRow = true) (hi : (P.info? T).map (·.size) = some 25) :
    (execOp ρ o).run P W = .ok (.value (.agg (vec 25 F))) W := by
  unfold execOp
  simp only [ho, hx]
  rw [Sem.run_bind, run_loadAt_mid W g k T (vecL 25 F) d h hu hr (by rw [hi, vecL_len])]
  rfl
theorem sws_cell {w : World} {lo g n c : Nat} {l : List Sw} (h : OwnSws w lo (.slice (some ⟨g, 0, none⟩) n c) l) (k : Nat) (hk : k < l.length) : SwC w g (k * 4) (l.getD k zeroSw) := by
  have := ownSws_cells h k hk
  rwa [show l.getD k zeroSw = l[k] by simp [List.getD_eq_getElem?_getD, List.getElem?_eq_getElem hk]]
theorem exec_allocV {P : Program} {ρ : Operand → Value} {o : Oper} {w : World} {T : TypeId} (n : Nat) (ho : o.op = .alloc T) (hz : ∀ w, (zeroValue T).run P w = .ok (.agg (vec n fun _ => 0)) w) :
    (execOp ρ o).run P w = .ok (.value (.pointer (some ⟨w.heap.size, 0, none⟩))) (w.alloc (.cells (vec n fun _ => 0) T)) := by
  unfold execOp
  simp only [ho, Instr.alloc, Sem.run_bind, hz, Result.andThen_ok]
  rfl
theorem exec_storeV {P : Program} {W : World} {g n : Nat} {T T' : TypeId} {F0 : Nat → Int} (F : Nat → Int) (hb : Blk W g T n F0) (hi : (P.info? T').map (·.size) = some n) :
    ∃ w', (∀ (ρ : Operand → Value) (o : Oper) (x y : Operand), o.op = .store T' x y → ρ x = .pointer (some ⟨g, 0, none⟩) → ρ y = .agg (vec n F) → (execOp ρ o).run P W = .ok .skip w') ∧ Blk w' g T n F ∧ W.grownBy w' (some g) ∧ w'.heap.size = W.heap.size := by
  refine ⟨_, fun ρ o x y ho hx hy => ?_, setRow_heap W g _ (vec n F) T (0, 0) hb, ⟨rfl, rfl, rfl, by simp, fun k hk hr => setRow_other W g k _ (fun e => hr (by rw [e]))⟩, by simp⟩
  unfold execOp
  simp only [ho, hx, hy, Instr.storeAt, Instr.sureAddr, Sem.run_bind, Sem.run_pure, Result.andThen_ok, run_storeVar_row W g T T' (vec n F0) (vec n F) hb (by rw [hi, vec_size]) (by simp [vec_size]) (vec_one n F)]
/-- A new image, in a block from B on. -/
def newB (B : Nat) : FactP := fun u w2 => ∃ G, u = .pointer (some ⟨G, 0, none⟩) ∧ B ≤ G ∧ Blk w2 G 84 25 fun _ => 0
theorem stable_newB (B : Nat) : StableP (newB B) := fun _ _ _ hb h => ⟨h.choose, h.choose_spec.1, h.choose_spec.2.1, blk_below h.choose_spec.2.2 hb⟩
theorem range_below {w w' : World} {g k : Nat} {cs : List Value} (h : w.rangeAt g k cs) (hb : Below w.heap.size w w') (hg : g < w.heap.size) : w'.rangeAt g k cs := fun j v hj => below_cell hb hg (h j v hj)
theorem zImg_cells : (Value.agg (vec 25 fun _ => 0)).cells.size = 25 := vec_size _ _
theorem start_facts (w : World) (F G : Nat → Int) : Blk (((w.alloc (.cells (vec 25 F) 84)).alloc (.cells (vec 25 G) 84)).alloc (.map #[] 0)) w.heap.size 84 25 F ∧
    Blk (((w.alloc (.cells (vec 25 F) 84)).alloc (.cells (vec 25 G) 84)).alloc (.map #[] 0)) (w.heap.size + 1) 84 25 G ∧
    ImgMap (((w.alloc (.cells (vec 25 F) 84)).alloc (.cells (vec 25 G) 84)).alloc (.map #[] 0)) (w.heap.size + 1 + 1) [] ∧
    Below w.heap.size w (((w.alloc (.cells (vec 25 F) 84)).alloc (.cells (vec 25 G) 84)).alloc (.map #[] 0)) ∧
    (((w.alloc (.cells (vec 25 F) 84)).alloc (.cells (vec 25 G) 84)).alloc (.map #[] 0)).heap.size = w.heap.size + 3 := by
  obtain ⟨w1, h1⟩ : ∃ w1, w1 = w.alloc (.cells (vec 25 F) 84) := ⟨_, rfl⟩
  have a1 : Below w.heap.size w w1 := by rw [h1]; exact (Below.refl _ _).alloc (Nat.le_refl _) _
  have b1 : Blk w1 w.heap.size 84 25 F := by rw [h1]; exact heap_alloc_new w _
  have s1 : w1.heap.size = w.heap.size + 1 := by rw [h1]; simp
  rw [← h1]
  clear h1
  obtain ⟨w2, h2⟩ : ∃ w2, w2 = w1.alloc (.cells (vec 25 G) 84) := ⟨_, rfl⟩
  have a2 : Below w1.heap.size w1 w2 := by rw [h2]; exact (Below.refl _ _).alloc (Nat.le_refl _) _
  have b2 : Blk w2 w1.heap.size 84 25 G := by rw [h2]; exact heap_alloc_new w1 _
  have s2 : w2.heap.size = w1.heap.size + 1 := by rw [h2]; simp
  rw [← h2]
  clear h2
  have a3 := (Below.refl w2.heap.size w2).alloc (Nat.le_refl _) (.map #[] 0)
  have m3 := imgMap_made w2
  rw [s1] at b2
  rw [s2, s1] at m3
  exact ⟨blk_below (blk_below b1 a2) a3, blk_below b2 a3, m3, a1.trans ((a2.mono a1.size).trans (a3.mono (Nat.le_trans a1.size a2.size))), by simp; omega⟩
end Go.Proofs.YtcliiefedmiokaaGreat
