/-
  Texts of this claim, one behind the other: BestI, HeavI, Draw, MakeW, SwV, SwL, Has.
-/
import Derived.Test.YtcliiefedmiokaaGreatPackR
import Derived.Test.YtcliiefedmiokaaGreatPackG
import Derived.Test.YtcliiefedmiokaaGreatPackP
import Derived.Test.YtcliiefedmiokaaGreatPackL
import Derived.Test.YtcliiefedmiokaaGreatPackM
import Derived.Test.YtcliiefedmiokaaGreatPackH
import Derived.Test.YtcliiefedmiokaaGreatPackJ
import Derived.Test.YtcliiefedmiokaaGreatPackC
import Derived.Test.YtcliiefedmiokaaGreatPackK
import Derived.Test.YtcliiefedmiokaaGreatPackD
/-
  bestImage: the first of all images of the greatest value.
-/
namespace Go.Proofs.YtcliiefedmiokaaGreat
open Go.RowKit Go.Shelf
attribute [local go_sem] Oper.semAt_some

/-- What a function value answers of an image of the list, in whatever world has grown out of w. -/
def ValFn (gv : Nat) (cv : Array Value) (vf : List (List Int) → Int) (L : List (List (List Int))) (w : World) : Prop :=
  ∀ (u : Value) (m : List (List Int)) (W : World), m ∈ L → Below w.heap.size w W → InMat W u m → Calls Tryz.prog gv (#[u] ++ cv) W fun e W' => e = .returned (.int .i64 (vf m)) ∧ Below W.heap.size W W'
/-- The best image so far in the box q, its value in the next one. -/
def BestSt (q : Nat) (vf : List (List Int) → Int) (pre : List (List (List Int))) (A : Nat → Prop) (W : World) : Prop :=
  ∃ (v : Value) (g : Int), Boxed W q 22 v ∧ Boxed W (q + 1) 3 (.int .i64 g) ∧ A q ∧ A (q + 1) ∧ (∀ k, A k → q ≤ k ∧ k < W.heap.size) ∧
    ((bestF vf pre = none ∧ v = .slice none 0 0 ∧ g = -9223372036854775808) ∨ ∃ m lo G, bestF vf pre = some (m, g) ∧ ValM v m lo G W ∧ (∀ k, G k → A k) ∧ q ≤ lo)
theorem bestSt_abid (q B : Nat) (vf : List (List Int) → Int) : AbidF B (BestSt q vf) := by
  rintro pre A W W' ⟨v, g, h1, h2, h3, h4, h5, h6⟩ - - - hs hk
  refine ⟨v, g, (hk q h1.lt (.inr h3)).trans h1, (hk _ h2.lt (.inr h4)).trans h2, h3, h4, fun k hA => ⟨(h5 k hA).1, Nat.lt_of_lt_of_le (h5 k hA).2 hs⟩, ?_⟩
  rcases h6 with h6 | ⟨m, lo, G, g1, g2, g3, g4⟩
  · exact .inl h6
  · exact .inr ⟨m, lo, G, g1, valM_agr g2 fun k hG => hk k (h5 k (g3 k hG)).2 (.inr (g3 k hG)), g3, g4⟩
theorem bestSt_slice {q : Nat} {vf : List (List Int) → Int} {pre : List (List (List Int))} {v : Value} {g : Int} {A : Nat → Prop} {W : World}
    (h : (bestF vf pre = none ∧ v = .slice none 0 0 ∧ g = -9223372036854775808) ∨ ∃ m lo G, bestF vf pre = some (m, g) ∧ ValM v m lo G W ∧ (∀ k, G k → A k) ∧ q ≤ lo) : ∃ a n c, v = .slice a n c := by
  rcases h with ⟨-, rfl, -⟩ | ⟨m, lo, G, -, ⟨vs, ⟨hv, -⟩, -⟩, -⟩
  · exact ⟨_, _, _, rfl⟩
  · obtain ⟨a, c, h⟩ := own_slice hv; exact ⟨a, _, c, h⟩

set_option maxRecDepth 100000 in
set_option maxHeartbeats 2000000 in
theorem bestImage_any (va vb : Value) (r c : List Int) (gv : Nat) (cv : Array Value) (vf : List (List Int) → Int) (w : World) (eg : ∀ args w, (callFunc gv args).run Tryz.prog w = .ok (.enter gv args) w) (ha : RowC w va r) (hb : InRow w vb c) (hs : sumsOk r c = true)
    (hvf : ValFn gv cv vf (allL r c) w) (hlo : ∀ m ∈ allL r c, -1000000 ≤ vf m ∧ vf m ≤ 1000000) :
    Calls Tryz.prog 66 #[va, vb, .func (.func gv) #[] cv] w fun e w' => ∃ v g, e = .returned (.tuple #[v, .int .i64 g]) ∧ ((bestF vf (allL r c) = none ∧ v = .slice none 0 0 ∧ g = -9223372036854775808) ∨ ∃ m, bestF vf (allL r c) = some (m, g) ∧ OwnMat w' w.heap.size w'.heap.size v m) ∧ Below w.heap.size w w' := by
  obtain ⟨q, hq⟩ : ∃ q, q = w.heap.size + 1 := ⟨_, rfl⟩
  obtain ⟨w0, hw0⟩ : ∃ w0, w0 = w.alloc (.cells #[.func (.func gv) #[] cv] 24) := ⟨_, rfl⟩
  have hs0 : w0.heap.size = w.heap.size + 1 := by rw [hw0]; simp
  obtain ⟨w1, hw1⟩ : ∃ w1, w1 = (w0.alloc (.cells #[.slice none 0 0] 22)).alloc (.cells #[.int .i64 (-9223372036854775808)] 3) := ⟨_, rfl⟩
  have B1 := hide (show Below w.heap.size w w1 by
    rw [hw1, hw0]
    exact (((Below.refl _ w).alloc (Nat.le_refl _) _).alloc (by simp) _).alloc (by simp; omega) _)
  have HS1 := hide (show w1.heap.size = w.heap.size + 3 by rw [hw1]; simp [hs0])
  have HQ := hide hq
  have HQ1 := hide (show Boxed w1 q 22 (.slice none 0 0) by
    rw [hw1, hq, ← hs0]; exact (Boxed.new w0 _ _).alloc _)
  have HQ2 := hide (show Boxed w1 (q + 1) 3 (.int .i64 (-9223372036854775808)) by
    have := Boxed.new (w0.alloc (.cells #[.slice none 0 0] 22)) 3 (.int .i64 (-9223372036854775808))
    rw [World.size_alloc, hs0] at this
    rw [hq, hw1]; exact this)
  have HQ0 := hide (show Boxed w1 w.heap.size 24 (.func (.func gv) #[] cv) by
    have h0 : Boxed w0 w.heap.size 24 (.func (.func gv) #[] cv) := by rw [hw0]; exact Boxed.new _ _ _
    rw [hw1]
    exact (h0.alloc _).alloc _)
  have HIW := hide fun w' (hw : Below w.heap.size w w') => imagesWith_any va vb r c w' (rowC_below ha hw) (inRow_below hb hw)
  have HSEQ := hide fun (W : World) (b : Nat) (A : Nat → Prop) (hW : Below w.heap.size w W) (hA : ∀ k, A k → w.heap.size ≤ k ∧ k < W.heap.size) (hA2 : ∀ k, A k → k < b) (h1 : W.cell? ⟨b, 0, none⟩ = some va) (h2 : W.cell? ⟨b + 1, 0, none⟩ = some vb) (h3 : W.cell? ⟨b + 2, 0, none⟩ = some (.func (.func 120) #[] #[])) =>
    iter_start ha hb hs hW hA h1 h2 h3 (fun x => Nat.lt_irrefl _ (hA2 _ x)) (fun x => by have := hA2 _ x; omega) (fun x => by have := hA2 _ x; omega)
  obtain ⟨L, hL⟩ : ∃ L, L = allL r c := ⟨_, rfl⟩
  rw [← hL] at HSEQ hvf hlo ⊢
  have HVF := hide hvf; have HLO := hide hlo
  obtain ⟨-, a1, c1, rfl, -, -⟩ := ha
  obtain ⟨a2, c2, rfl, -, -⟩ := hb
  obtain ⟨n1, hn1⟩ : ∃ n, n = r.length := ⟨_, rfl⟩
  obtain ⟨n2, hn2⟩ : ∃ n, n = c.length := ⟨_, rfl⟩
  rw [← hn1, ← hn2] at HIW HSEQ
  rw [← hn1, ← hn2]
  clear hn1 hn2 hL hvf hlo hs
  refine (callsIn_wide (n := 0)).1 ?_
  refine callsIn_of_wp_marks Tryz.func66 rfl trivial ?_ rfl
  simp only [Tryz.ntmps66, List.size_toArray, List.length_cons, List.length_nil, Nat.reduceAdd, Nat.reduceSub, Array.replicate_succ, Array.replicate_zero, List.push_toArray, List.append_toArray, List.nil_append, List.cons_append]
  gi_wp2_with fail
  rw [← hw0, ← hw1, show w.heap.size + 1 + 1 = q + 1 by rw [hq], ← hq]
  clear hw1 hw0 hs0 hq
  refine ⟨trivial, rfl, (callsIn_wide (n := 0)).2 ((HIW.out w1 B1.out).mono ?_)⟩
  rintro e w3 ⟨rfl, hx0, hx1, hx2, hb3, hs3⟩
  have B3 := hide (B1.out.trans (hb3.mono B1.out.size))
  have HX := hide (And.intro hx0 (And.intro hx1 hx2))
  have HS3 := hide hs3
  have HR0 := hide (show Boxed w3 w.heap.size 24 (.func (.func gv) #[] cv) from (hb3.block _ HQ0.out.lt).trans HQ0.out)
  have HST := hide (show BestSt q vf [] (fun k => k = q ∨ k = q + 1) w3 from ⟨_, _, (hb3.block _ HQ1.out.lt).trans HQ1.out, (hb3.block _ HQ2.out.lt).trans HQ2.out, .inl rfl, .inr rfl, fun k hk => by have h1 := HS1.out; have h2 := HQ.out; omega, .inl ⟨rfl, rfl, rfl⟩⟩)
  clear hx0 hx1 hx2 hb3 hs3
  gi_wp2_with fail
  refine wp_rangeEach (gf := 134) (lb := #[.pointer (some ⟨w1.heap.size, 0, none⟩), .pointer (some ⟨w1.heap.size + 2, 0, none⟩), .pointer (some ⟨w1.heap.size + 1, 0, none⟩)]) rfl (enters_of Tryz.func134 (by kernel_rfl) rfl)
    (L := L) (Val := ValM) (fun v m lo G W W' h1 _ h3 => valM_agr h1 h3) (fun k => k = q ∨ k = q + 1) (fun k hk => by have h1 := HS1.out; have h2 := HS3.out; have h3 := HQ.out; omega) (fun W4 hb4 hs4 => ?seq) rfl
    (BestSt q vf) (fun _ _ _ _ => False) (bestSt_abid _ _ _) (fun _ _ _ _ _ h => h.elim) (fun pre A W h k hk => by obtain ⟨v, g, -, -, -, -, h5, -⟩ := h; exact (h5 k hk).2) HST.out
    (fun x => { tmps := #[.slice a1 n1 c1, .slice a2 n2 c2, .func (.func gv) #[] cv, undef, undef, .pointer (some ⟨w.heap.size, 0, none⟩), .slice none 0 0, .int .i64 0, .pointer (some ⟨q, 0, none⟩), .pointer (some ⟨q + 1, 0, none⟩), x, undef, .slice a1 n1 c1, .slice a2 n2 c2, .func (.func 134) #[] #[.pointer (some ⟨w1.heap.size, 0, none⟩), .pointer (some ⟨w1.heap.size + 2, 0, none⟩), .pointer (some ⟨w1.heap.size + 1, 0, none⟩)], x, undef, undef, undef, undef, undef, undef, undef, undef, undef, undef], defers := [] }) ?assign ?body ?done ?stop
  case seq =>
    have h1 := HS1.out; have h2 := HS3.out; have h3 := HQ.out
    exact HSEQ.out W4 w1.heap.size _ (B3.out.trans (hb4.mono B3.out.size)) (fun k hk => by omega) (fun k hk => by omega) (below_cell hb4 (by omega) HX.out.1) (below_cell hb4 (by omega) HX.out.2.1) (below_cell hb4 (by omega) HX.out.2.2)
  case assign =>
    intro l2 x m lo G W K hv hK
    obtain ⟨ax, nx, cx, rfl⟩ : ∃ a n c, x = .slice a n c := by obtain ⟨vs, ⟨hv, -⟩, -⟩ := hv; obtain ⟨a, c, h⟩ := own_slice hv; exact ⟨a, _, c, h⟩
    clear hv
    gi_wp2
    exact hK
  case body =>
    intro l2 pre A m x lo G W hi hst hpre hval hlo hlo1 hAlo hG
    obtain ⟨ax, nx, cx, rfl⟩ : ∃ a n c, x = .slice a n c := by obtain ⟨vs, ⟨hv, -⟩, -⟩ := id hval; obtain ⟨a, c, h⟩ := own_slice hv; exact ⟨a, _, c, h⟩
    obtain ⟨v, g, hq1, hq2, hAq, hAq1, hAk, hbest⟩ := hi
    have hmL : m ∈ L := hpre.subset (by simp)
    have hBW : Below w.heap.size w W := below_itStep B3.out (fun k hk => by have h1 := HQ.out; omega) hst
    have HBW := hide hBW
    have HC := hide (HVF.out _ m W hmL hBW (inMat_own (valM_own hval fun k hk => (hG k hk).2)))
    have HM := hide (HLO.out m hmL)
    have HQA := hide hq1; have HQB := hide hq2; have HVAL := hide hval; have HG := hide hG; have HAL := hide hAlo; have HAK := hide hAk; have HBE := hide hbest; have HA1 := hide hAq; have HA2 := hide hAq1; have HSN := hide (bestF_snoc vf pre m)
    have HPRE := hide (fun x (hx : x ∈ pre) => hpre.subset (List.mem_append_left _ hx))
    have hc0 : W.cell? ⟨w.heap.size, 0, none⟩ = some (.func (.func gv) #[] cv) := by
      have h1 := HS1.out; have h2 := HS3.out; have h3 := HQ.out
      have hb0 : Boxed W w.heap.size 24 (.func (.func gv) #[] cv) := (hst.1.block _ HR0.out.lt (fun h => by omega)).trans HR0.out
      exact hb0.cell
    clear hst hpre hval hlo hlo1 hAlo hG hAk hbest hq1 hq2 hAq hAq1 hmL hBW
    gi_wp2_with fail
    refine ⟨trivial, rfl, (show CallsIn Fence.wide 0 _ _ _ _ _ from (callsIn_wide (n := 0)).2 (HC.out.mono ?_))⟩
    rintro e W2 ⟨rfl, hb2⟩
    have HB2 := hide hb2
    have HQA2 := hide (show Boxed W2 q 22 v from (hb2.block _ HQA.out.lt).trans HQA.out)
    have HQB2 := hide (show Boxed W2 (q + 1) 3 (.int .i64 g) from (hb2.block _ HQB.out.lt).trans HQB.out)
    obtain ⟨z, hz⟩ : ∃ z, z = vf m := ⟨_, rfl⟩
    have HZ := hide hz
    rw [← hz] at HM
    rw [← hz]
    have hg2 : -9223372036854775808 ≤ g ∧ g ≤ 1000000 := by
      rcases HBE.out with ⟨-, -, e⟩ | ⟨m', lo', G', e, -⟩
      · omega
      · have hsp := bestF_spec vf pre
        rw [e] at hsp
        obtain ⟨p1, p2, -⟩ := hsp
        have p3 := HLO.out m' (HPRE.out m' p1)
        simp only at p2
        omega
    have hc2 := HQB2.out.cell
    have hf2 := HQB2.out.frozen
    have hc1 := HQA2.out.cell
    have hf1 := HQA2.out.frozen
    obtain ⟨hg3, hg4⟩ := hg2
    obtain ⟨hz3, hz4⟩ := HM.out
    clear hb2 hz hc0
    by_cases hlt : g < z
    · have hgt : z > g := hlt
      have HLT := hide hlt
      clear hlt
      gi_wp2
      obtain ⟨W', hW'⟩ : ∃ W', W' = (W2.setCell ⟨q, 0, none⟩ (.slice ax nx cx)).setCell ⟨q + 1, 0, none⟩ (.int .i64 z) := ⟨_, rfl⟩
      rw [← hW']
      have hsz : W'.heap.size = W2.heap.size := by rw [hW']; simp [World.setCell]
      have hblk : ∀ k, k ≠ q → k ≠ q + 1 → W'.heap[k]? = W2.heap[k]? := fun k h1 h2 => by
        rw [hW']
        exact (Below.heap_setCell _ _ _ _ h2).trans (Below.heap_setCell _ _ _ _ h1)
      have hbq1 : Boxed W' q 22 (.slice ax nx cx) := by
        rw [hW']
        exact (Below.heap_setCell _ _ _ _ (Nat.ne_of_lt (Nat.lt_succ_self _))).trans (HQA2.out.set _)
      have hbq2 : Boxed W' (q + 1) 3 (.int .i64 z) := by
        have hb0 : Boxed (W2.setCell ⟨q, 0, none⟩ (.slice ax nx cx)) (q + 1) 3 (.int .i64 g) := (Below.heap_setCell _ _ _ _ (Nat.ne_of_gt (Nat.lt_succ_self _))).trans HQB2.out
        rw [hW']
        exact hb0.set _
      have hqlo : q + 1 < lo := HAL.out _ HA2.out
      have hG := HG.out
      have hB2 := HB2.out
      have hsz2 := hB2.size
      refine ⟨fun k => A k ∨ G k, ⟨_, z, hbq1, hbq2, .inl HA1.out, .inl HA2.out, fun k hk => ?_, .inr ⟨m, lo, G, ?_, valM_agr HVAL.out fun k hk => ?_, fun k hk => .inr hk, by omega⟩⟩, ⟨⟨?_, ?_, ?_, by omega, fun k hk hn => ?_⟩, fun k hk => ?_⟩⟩
      · rcases hk with hk | hk
        · have := HAK.out k hk; omega
        · have := hG k hk; omega
      · rw [HSN.out, HZ.out]
        rcases HBE.out with ⟨e, -⟩ | ⟨m', lo', G', e, -⟩
        · rw [e]; rfl
        · rw [e]; exact bestS_more (by have h := HLT.out; rw [HZ.out] at h; exact h)
      · have := hG k hk
        rw [hblk k (by omega) (by omega), hB2.block k (by omega)]
      · rw [hW']; exact hB2.os
      · rw [hW']; exact hB2.tape
      · rw [hW']; exact hB2.output
      · rw [hblk k (fun e => hn (e ▸ HA1.out)) (fun e => hn (e ▸ HA2.out)), hB2.block k hk]
      · rcases hk with hk | hk
        · exact .inl hk
        · exact .inr (.inl hk)
    · have HLT := hide hlt
      have hle : z ≤ g := by omega
      clear hlt
      gi_wp2
      have hB2 := HB2.out
      have hsz2 := hB2.size
      refine ⟨A, ⟨v, g, HQA2.out, HQB2.out, HA1.out, HA2.out, fun k hk => by have := HAK.out k hk; omega, .inr ?_⟩, ⟨⟨hB2.os, hB2.tape, hB2.output, hsz2, fun k hk _ => hB2.block k hk⟩, fun k hk => .inl hk⟩⟩
      rcases HBE.out with ⟨-, -, e⟩ | ⟨m', lo', G', e, g1, g2, g3⟩
      · omega
      · refine ⟨m', lo', G', ?_, valM_agr g1 fun k hk => hB2.block k (HAK.out k (g2 k hk)).2, g2, g3⟩
        rw [HSN.out, e]; exact bestS_less (by have h := HLT.out; rw [HZ.out] at h; show ¬ g < vf m; omega)
  case done =>
    rintro A W ⟨v, g, hq1, hq2, hAq, hAq1, hAk, hbest⟩ hst _ hmk
    obtain ⟨av, nv, cv', rfl⟩ := bestSt_slice hbest
    have hc1 := hq1.cell
    have hc2 := hq2.cell
    have HMK := hide hmk
    have HBE := hide hbest
    have HAK := hide hAk
    have HBB := hide (below_itStep B3.out (fun k hk => by have h1 := HQ.out; omega) hst)
    clear hst hmk hbest hAk hAq hAq1 hq1 hq2
    gi_wp2
    rw [wpIn_wide]
    go_quiet (fail)
    gi_wp2
    refine ⟨by simp, .inl ⟨_, _, rfl, run_takeDeferred (show (W.drewN nq).heap[w3.heap.size]? = _ from HMK.out), ?_⟩⟩
    refine ⟨_, results_tmp2 rfl _ _ _, .slice av nv cv', g, rfl, ?_, below_putObj (below_draws HBB.out nq) B3.out.size _⟩
    rcases HBE.out with h | ⟨m, lo, G, g1, g2, g3, g4⟩
    · exact .inl h
    · refine .inr ⟨m, g1, ?_⟩
      have hm : OwnMat (W.drewN nq) lo W.heap.size (.slice av nv cv') m := valM_own (valM_agr g2 fun k hk => rfl) fun k hk => (HAK.out k (g3 k hk)).2
      exact ownMat_mono (ownMat_putObj _ hm (show (W.drewN nq).heap[w3.heap.size]? = _ from HMK.out) rfl) (by have := HQ.out; omega) (by simp [World.putObj])
  case stop =>
    intro cc pre A W hpre h
    exact h.elim
end Go.Proofs.YtcliiefedmiokaaGreat
/-
  HeaviestImage of the program.
-/
namespace Go.Proofs.YtcliiefedmiokaaGreat
open Go.RowKit Go.Shelf

theorem heavy1_any (r c : List Int) (k : List (List Int)) (vk : Value) (q : Nat) (w : World) (hk : InMat w vk k) (he : existsOf r c = true) (hsz : sizeB k r.length c.length (-100) 100 = true) (hq : w.cell? ⟨q, 0, none⟩ = some vk) (hqs : q < w.heap.size) :
    ValFn 70 #[.pointer (some ⟨q, 0, none⟩)] (heavF r c k) (allL r c) w := by
  intro u m W hm hW hu
  obtain ⟨hmk, hI, -⟩ := allL_mk he hm
  obtain ⟨hkm, hwt⟩ := sizeB_wt hsz
  have hk2 := inMat_below hk hW
  rw [hkm] at hk2
  have hu2 := hu
  rw [hmk] at hu2
  have HB := hide (blackWeight_any vk u r.length c.length (cellM k) (cellM m) W hk2 hu2 hI hwt)
  have HF : Hid (heavF r c k m = wtS r.length c.length (cellM k) (cellM m)) := hide rfl
  rw [HF.out]
  have hq2 := below_cell hW hqs hq
  obtain ⟨ak, ck, rfl, -, -⟩ := hk
  obtain ⟨au, cu, rfl, -, -⟩ := hu
  obtain ⟨S, hS⟩ : ∃ S, S = wtS r.length c.length (cellM k) (cellM m) := ⟨_, rfl⟩
  rw [← hS] at HB ⊢
  generalize k.length = K at *
  generalize m.length = M at *
  clear hq hW hk2 hu2 hI hwt hkm hmk hm he hsz hS HF hqs
  go_enter Tryz.func70, Tryz.ntmps70
  go_wp2_with (go_at_call 71; refine HB.out.mono ?_; rintro e w2 ⟨rfl, rfl⟩)
  go_ret
  exact ⟨rfl, Below.refl _ _⟩
def PickRes (m : List (List Int)) (n : Int) (b : Bool) (w : World) (e : Ending) (w' : World) : Prop := ∃ u0, e = .returned (.tuple #[u0, .int .i64 n, .bool b]) ∧ OwnMat w' w.heap.size w'.heap.size u0 m ∧ Below w.heap.size w w'
set_option maxRecDepth 100000 in
set_option maxHeartbeats 2000000 in
theorem implHeaviest_any (va vb vk : Value) (r c : List Int) (k : List (List Int)) (w : World) (ha : RowC w va r) (hb : RowC w vb c) (hk : InMat w vk k) :
    Calls Tryz.prog 28 #[va, vb, vk] w (PickRes (heavP r c k).1 (heavP r c k).2 (heavB r c k) w) := by
  obtain ⟨w1, hw1⟩ : ∃ w1, w1 = w.alloc (.cells #[vk] 22) := ⟨_, rfl⟩
  have B1 := hide (show Below w.heap.size w w1 by rw [hw1]; exact (Below.refl _ w).alloc (Nat.le_refl _) _)
  have hs1 : w1.heap.size = w.heap.size + 1 := by rw [hw1]; simp
  have hq1 : w1.cell? ⟨w.heap.size, 0, none⟩ = some vk := by rw [hw1]; simp [World.cell?_alloc_new]
  have HE := hide (implExists_any va vb r c w1 (inRow_below ha.1 B1.out) (inRow_below hb.1 B1.out))
  cases he : existsOf r c with
  | false =>
    rw [he] at HE
    have HH : Hid (heavB r c k = false) := hide (by rw [heavB, he, Bool.false_and])
    have HP : Hid (heavP r c k = ([], 0)) := hide (by rw [heavP, HH.out]; rfl)
    rw [HH.out, HP.out]
    obtain ⟨-, a1, c1, rfl, -, -⟩ := ha
    obtain ⟨-, a2, c2, rfl, -, -⟩ := hb
    obtain ⟨a3, c3, rfl, -, -⟩ := hk
    generalize r.length = n1 at *
    generalize c.length = n2 at *
    generalize k.length = n3 at *
    clear he HH HP hs1 hq1
    go_enter Tryz.func28, Tryz.ntmps28
    go_wp2_with fail
    rw [← hw1]
    clear hw1
    go_wp2_with (go_at_call 46; refine HE.out.mono ?_; rintro e w2 ⟨rfl, b2⟩; have B2 := hide b2; clear b2)
    refine bodyPost_ret (results_tmp3 rfl _ _ _) rfl ⟨_, rfl, ownMat_nil _ _ _, B1.out.trans (B2.out.mono B1.out.size)⟩
  | true =>
    rw [he] at HE
    obtain ⟨hr5, hc5, -⟩ := sumsOk_yes (existsOf_sums he)
    have HW := hide fun w' (hw : Below w.heap.size w w') => implWeightOk_any vk k r.length c.length w' (inMat_below hk hw)
    have HQC := hide fun w' (hw : Below w1.heap.size w1 w') => below_cell hw (by omega) hq1
    cases hwb : wtB k r.length c.length with
    | false =>
      rw [hwb] at HW
      have HH : Hid (heavB r c k = false) := hide (by rw [heavB, hwb, Bool.and_false])
      have HP : Hid (heavP r c k = ([], 0)) := hide (by rw [heavP, HH.out]; rfl)
      rw [HH.out, HP.out]
      obtain ⟨-, a1, c1, rfl, -, -⟩ := ha
      obtain ⟨-, a2, c2, rfl, -, -⟩ := hb
      obtain ⟨a3, c3, rfl, -, -⟩ := hk
      obtain ⟨n1, hn1⟩ : ∃ n, n = r.length := ⟨_, rfl⟩
      obtain ⟨n2, hn2⟩ : ∃ n, n = c.length := ⟨_, rfl⟩
      obtain ⟨n3, hn3⟩ : ∃ n, n = k.length := ⟨_, rfl⟩
      rw [← hn1, ← hn2] at HE HW
      rw [← hn3] at HW HQC hw1
      rw [← hn1, ← hn2, ← hn3]
      clear he hwb HH HP hs1 hq1 hr5 hc5 hn1 hn2 hn3
      go_enter Tryz.func28, Tryz.ntmps28
      go_wp2_with fail
      rw [← hw1]
      clear hw1
      go_wp2_with (first | (go_at_call 46; refine HE.out.mono ?_; rintro e w2 ⟨rfl, b2⟩; have B2 := hide (B1.out.trans (b2.mono B1.out.size)); have hqc := HQC.out _ b2; clear b2) | (go_at_call 30; refine (HW.out _ B2.out).mono ?_; rintro e w3 ⟨rfl, b3⟩; have B3 := hide (B2.out.trans (b3.mono B2.out.size)); clear b3))
      refine bodyPost_ret (results_tmp3 rfl _ _ _) rfl ⟨_, rfl, ownMat_nil _ _ _, B3.out⟩
    | true =>
      rw [hwb] at HW
      have hsz := wtB_nat hwb
      obtain ⟨hkm, hwt⟩ := sizeB_wt hsz
      have HH : Hid (heavB r c k = true) := hide (by rw [heavB, he, hwb]; rfl)
      have HBI := hide fun w' (hw1' : Below w1.heap.size w1 w') => bestImage_any va vb r c 70 #[.pointer (some ⟨w.heap.size, 0, none⟩)] (heavF r c k) w' (enters_of Tryz.func70 (by kernel_rfl) rfl)
        (rowC_below ha (B1.out.trans (hw1'.mono B1.out.size))) (inRow_below hb.1 (B1.out.trans (hw1'.mono B1.out.size))) (existsOf_sums he) (heavy1_any r c k vk w.heap.size w' (inMat_below hk (B1.out.trans (hw1'.mono B1.out.size))) he hsz (HQC.out _ hw1') (by have := hw1'.size; omega)) (fun m hm => by have := heavF_range he hwt hm; omega)
      obtain ⟨p, hp, -⟩ := bestF_some (vf := heavF r c k) (allL_ne he)
      have HP : Hid (heavP r c k = p) := hide (by rw [heavP, HH.out, pickP, hp]; rfl)
      rw [HH.out, HP.out]
      rw [hp] at HBI
      obtain ⟨-, a1, c1, rfl, -, -⟩ := ha
      obtain ⟨-, a2, c2, rfl, -, -⟩ := hb
      obtain ⟨a3, c3, rfl, -, -⟩ := hk
      obtain ⟨n1, hn1⟩ : ∃ n, n = r.length := ⟨_, rfl⟩
      obtain ⟨n2, hn2⟩ : ∃ n, n = c.length := ⟨_, rfl⟩
      obtain ⟨n3, hn3⟩ : ∃ n, n = k.length := ⟨_, rfl⟩
      rw [← hn1, ← hn2] at HE HW HBI
      rw [← hn3] at HW HQC hw1
      rw [← hn1, ← hn2, ← hn3]
      clear he hwb HH HP hs1 hq1 hr5 hc5 hn1 hn2 hn3 hp hsz hkm hwt
      go_enter Tryz.func28, Tryz.ntmps28
      go_wp2_with fail
      rw [← hw1]
      clear hw1
      go_wp2_with (first | (go_at_call 46; refine HE.out.mono ?_; rintro e w2 ⟨rfl, b2⟩; have B2 := hide b2; have hqc := HQC.out _ b2; clear b2) | (go_at_call 30; refine (HW.out _ (B1.out.trans (B2.out.mono B1.out.size))).mono ?_; rintro e w3 ⟨rfl, b3⟩; have B3 := hide (B2.out.trans (b3.mono B2.out.size)); clear b3) | fail)
      refine (HBI.out _ B3.out).mono ?_
      rintro e w4 ⟨v, g, rfl, h | ⟨m, h1, h2⟩, b4⟩
      · exact absurd h.1 (by simp)
      · obtain rfl := Option.some.inj h1
        have HB4 := hide ((B1.out.trans (B3.out.mono B1.out.size)).trans (b4.mono (B1.out.trans (B3.out.mono B1.out.size)).size))
        have HM := hide (ownMat_mono h2 (B1.out.trans (B3.out.mono B1.out.size)).size (Nat.le_refl _))
        obtain ⟨av, nv, cv, rfl⟩ : ∃ a n c, v = .slice a n c := by obtain ⟨vs, hv, -⟩ := h2; obtain ⟨a, c, h⟩ := own_slice hv; exact ⟨a, _, c, h⟩
        clear h1 h2 b4
        go_wp2
        refine bodyPost_ret (results_tmp3 rfl _ _ _) rfl ⟨_, rfl, HM.out, HB4.out⟩
end Go.Proofs.YtcliiefedmiokaaGreat
/-
  The images that the laws draw: l02Draw, MakeImage, MakeSized.
-/
namespace Go.Proofs.YtcliiefedmiokaaGreat
open Go.RowKit

theorem curAt_within {w w' : World} {B n : Nat} {a : Option Addr} (h : CurAt w B a n) (hb : w'.heap[B]? = w.heap[B]?) : CurAt w' B a n := by
  obtain ⟨c, i, k, h1, h2, h3⟩ := h
  exact ⟨c, i, k, by rw [hb]; exact h1, h2, h3⟩
theorem curAt_lt {w : World} {B n : Nat} {a : Option Addr} (h : CurAt w B a n) : B < w.heap.size := by
  obtain ⟨c, i, k, h1, -⟩ := h
  exact (Array.getElem?_eq_some_iff.1 h1).1
theorem curAt_below {w w' : World} {B n : Nat} {a : Option Addr} (h : CurAt w B a n) (hb : Below w.heap.size w w') : CurAt w' B a n := curAt_within h (hb.block B (curAt_lt h))
theorem ownMat_cur {w w' : World} {lo hi B : Nat} {v : Value} {m : List (List Int)} (h : OwnMat w lo hi v m) (hg : w.grownBy w' (some B)) (hB : B < lo) : OwnMat w' lo hi v m :=
  ownMat_within h (within_grown (lo := B) (hi := B + 1) hg fun k hk => by cases hk; exact ⟨Nat.le_refl _, Nat.lt_succ_self _⟩) (.inr hB)
theorem grown_undrew {w w' : World} {row : Option Nat} (h : w.drew.grownBy w' row) : w.grownBy w' row := ⟨h.os, h.tape, h.output, h.size, h.block⟩
theorem cells_kept {w w' : World} {B gv y gr x : Nat} {u z : Value} (h : w.drew.grownBy w' (some B)) (h1 : w.cell? ⟨gv, y, none⟩ = some u) (h2 : w.cell? ⟨gr, x, none⟩ = some z) (h3 : w.frozen? ⟨gr, x, none⟩ = false) (n1 : gv ≠ B) (n2 : gr ≠ B) :
    w'.cell? ⟨gv, y, none⟩ = some u ∧ w'.cell? ⟨gr, x, none⟩ = some z ∧ w'.frozen? ⟨gr, x, none⟩ = false := by
  have hg := grown_undrew h
  refine ⟨hg.cell h1 (by simpa using n1), hg.cell h2 (by simpa using n2), ?_⟩
  have hlt : gr < w.heap.size := World.block_lt_of_cell? w _ h2
  rw [World.frozen?_of_block (w := w) (a := ⟨gr, x, none⟩) (hg.block gr hlt (by simpa using n2))]; exact h3
theorem img_upd {R C : Nat} {f : Nat → Nat → Int} (h : Img R C f) (y x : Nat) {z : Int} (hz : z = 0 ∨ z = 1) : Img R C fun a b => if a = y ∧ b = x then z else f a b :=
  ⟨h.r1, h.r2, h.c1, h.c2, fun a b ha hb => by
    show (if a = y ∧ b = x then z else f a b) = 0 ∨ (if a = y ∧ b = x then z else f a b) = 1
    split
    · exact hz
    · exact h.cell a b ha hb⟩

theorem ownMat_apart {w : World} {lo hi g n c g' n' c' : Nat} {m : List (List Int)} (h : OwnMat w lo hi (.slice (some ⟨g, 0, none⟩) n c) m) (i : Nat) (h' : i < m.length) (hc : w.cell? ⟨g, i, none⟩ = some (.slice (some ⟨g', 0, none⟩) n' c')) : g ≠ g' := by
  obtain ⟨vs, ho, -, hr, -⟩ := h
  have hn : n = m.length := by
    rcases ho.2 with ⟨e, _⟩ | ⟨g2, cap, cur, e, _⟩
    · cases e
    · cases e; rfl
  subst hn
  have h1 := cell_held ho h'
  rw [hc, Option.some.injEq] at h1
  rcases own_types ho (hr i h').1 (by decide) with e | e
  · cases e
  · rw [← h1] at e
    simpa [Value.ownBlock] using e
/-- What the laws draw: some image; the cursor in its place; nothing below it touched. -/
def DrawnImg (w : World) (B : Nat) (a : Option Addr) (n : Nat) (e : Ending) (w' : World) : Prop :=
  ∃ (v : Value) (R C : Nat) (f : Nat → Nat → Int), e = .returned v ∧ Img R C f ∧ OwnMat w' w.heap.size w'.heap.size v (mkM R C f) ∧ CurAt w' B a n ∧ Below B w w'

/-- And it is of the size asked. -/
def DrawnMost (most : Nat) (w : World) (B : Nat) (a : Option Addr) (n : Nat) (e : Ending) (w' : World) : Prop :=
  ∃ (v : Value) (R C : Nat) (f : Nat → Nat → Int), e = .returned v ∧ Img R C f ∧ (R ≤ most ∧ C ≤ most) ∧ OwnMat w' w.heap.size w'.heap.size v (mkM R C f) ∧ CurAt w' B a n ∧ Below B w w'
set_option maxRecDepth 100000 in
set_option maxHeartbeats 1000000 in
theorem l02Draw_most (B n : Nat) (a : Option Addr) (most : Nat) (w : World) (base : Nat) (hm0 : 1 ≤ most) (hm1 : most ≤ 5) (hc : CurAt w B a n) (hin : InBytes w base a n) (hbase : base ≤ B) :
    Calls Tryz.prog 41 #[.pointer (some ⟨B, 0, none⟩), .int .i64 most] w (DrawnMost most w B a n) := by
  have HC := hide hc; have HI := hide hin
  have hBw := curAt_lt hc
  clear hc hin
  go_enter Tryz.func41, Tryz.ntmps41
  go_wp2_with fail
  refine (l01Below_any B n a most _ base (by omega) (by omega) HC.out HI.out hbase).mono ?_
  rintro e w1 ⟨x1, hx10, hx11, rfl, hc1, hg1⟩
  have HC1 := hide hc1; have HI1 := hide (inBytes_grown HI.out hg1 hbase); have HG1 := hide hg1
  clear hc1 hg1
  go_wp2_with fail
  refine (l01Below_any B n a most _ base (by omega) (by omega) HC1.out HI1.out hbase).mono ?_
  rintro e w2 ⟨x2, hx20, hx21, rfl, hc2, hg2⟩
  have HC2 := hide hc2; have HI2 := hide (inBytes_grown HI1.out hg2 hbase); have HG2 := hide (grown_trans HG1.out hg2)
  clear hc2 hg2
  obtain ⟨R, hR⟩ : ∃ R : Nat, 1 + x1 = R := ⟨(1 + x1).toNat, by omega⟩
  obtain ⟨C, hC⟩ : ∃ C : Nat, 1 + x2 = C := ⟨(1 + x2).toNat, by omega⟩
  have HMOST : Hid (R ≤ most ∧ C ≤ most) := hide (by omega)
  have hR5 : 1 ≤ R ∧ R ≤ 5 := by omega
  have hC5 : 1 ≤ C ∧ C ≤ 5 := by omega
  obtain rfl : x1 = R - 1 := by omega
  obtain rfl : x2 = C - 1 := by omega
  have k1 : 1 + ((R : Int) - 1) = R := by omega
  have k2 : 1 + ((C : Int) - 1) = C := by omega
  clear hR hC
  go_wp2_with fail
  refine (l02Empty_any R C _ hR5.2 hC5.2).mono ?_
  rintro e w3 ⟨v3, rfl, o3, b3⟩
  clear k1 k2
  obtain ⟨gv, cv, rfl⟩ := ownMat_some o3 (by rw [mkM_len]; omega)
  rw [mkM_len] at *
  have hs2 := HG2.out.size
  have B3 := hide ((grown_below HG2.out (fun k hk => by cases hk; exact Nat.le_refl B) (by omega) : Below B w w2).trans (b3.mono (by omega)))
  have C3 := hide (curAt_below HC2.out b3)
  have I3 := hide (inBytes_below HI2.out (b3.mono (by have := HI2.out.2.1; omega)))
  have O3 := hide (ownMat_mono o3 hs2 (Nat.le_refl _))
  have IM3 := hide (img_zero hR5 hC5)
  obtain ⟨hi, hhi⟩ : ∃ hi, hi = w3.heap.size := ⟨_, rfl⟩
  have hge : hi ≤ w3.heap.size := by omega
  rw [← hhi] at O3
  clear HG2 HC2 HI2 HC1 HI1 HG1 o3 b3 hhi
  go_wp2
  go_loopw [19] (fun i w' => ∃ (y : Nat) (f : Nat → Nat → Int), y ≤ R ∧ i = .int .i64 y ∧ Img R C f ∧ hi ≤ w'.heap.size ∧ OwnMat w' w.heap.size hi (.slice (some ⟨gv, 0, none⟩) R cv) (mkM R C f) ∧ CurAt w' B a n ∧ InBytes w' base a n ∧ Below B w w') (fun i _ => R - (intOf i).toNat)
  case atStart => exact ⟨0, zeroM, by omega, rfl, IM3.out, hge, O3.out, C3.out, I3.out, B3.out⟩
  case round =>
    clear B3 C3 I3 O3 IM3 hge
    obtain ⟨y, f, hy, rfl, him, hhi, hown, hcu, hib, hb⟩ := hrel
    have HM := hide him; have HO := hide hown; have HCu := hide hcu; have HIB := hide hib; have HB := hide hb
    clear him hown hcu hib hb
    by_cases hlt : y < R
    · have hyI : (y : Int) < R := by omega
      obtain ⟨g0, c0, hrow0, -⟩ := ownMat_cell HO.out y 0 hlt (by omega)
      go_wp2
      clear hrow0
      go_loopw [27] (fun i w' => ∃ (x : Nat) (f : Nat → Nat → Int), x ≤ C ∧ i = .int .i64 x ∧ Img R C f ∧ hi ≤ w'.heap.size ∧ OwnMat w' w.heap.size hi (.slice (some ⟨gv, 0, none⟩) R cv) (mkM R C f) ∧ CurAt w' B a n ∧ InBytes w' base a n ∧ Below B w w') (fun i _ => C - (intOf i).toNat)
      case atStart => exact ⟨0, f, by omega, rfl, HM.out, hhi, HO.out, HCu.out, HIB.out, HB.out⟩
      case round =>
        clear HM HO HCu HIB HB hhi f
        obtain ⟨x, f, hx, rfl, him, hhi, hown, hcu, hib, hb⟩ := hrel
        have HM := hide him; have HO := hide hown; have HCu := hide hcu; have HIB := hide hib; have HB := hide hb
        clear him hown hcu hib hb
        by_cases hlx : x < C
        · have hxI : (x : Int) < C := by omega
          obtain ⟨gr, cr, hrow, hcl, hfr, hlo, hgh, -⟩ := ownMat_cell HO.out y x hlt hlx
          have hgv : gv ≠ B := by
            obtain ⟨vs, hvs, -⟩ := HO.out
            have := (hvs.lt gv rfl).1; omega
          have HK : Hid (∀ w5, CurAt w5 B a n → wr.drew.grownBy w5 (some B) → w5.cell? ⟨gv, y, none⟩ = some (.slice (some ⟨gr, 0, none⟩) C cr) ∧ w5.cell? ⟨gr, x, none⟩ = some (.int .i64 (f y x)) ∧ w5.frozen? ⟨gr, x, none⟩ = false) := hide fun w5 hc hg => cells_kept hg hrow hcl hfr hgv (by omega)
          have hgg : gv ≠ gr := ownMat_apart HO.out y (by rw [mkM_len]; exact hlt) hrow
          have HCd : Hid (CurAt wr.drew B a n) := hide HCu.out
          have HId : Hid (InBytes wr.drew base a n) := hide HIB.out
          go_wp2
          go_region_held3 (fun w' => w'.cell? ⟨gv, y, none⟩ = some (.slice (some ⟨gr, 0, none⟩) C cr))
            (first | exact hrow | exact k1 | exact HKS.out)
            (first | (go_at_call 62; refine (l01Below_any B n a 2 _ base (by omega) (by omega) HCd.out HId.out hbase).mono ?_; rintro e w5 ⟨z, hz0, hz1, rfl, hc5, hg5⟩; obtain ⟨k1, k2, k3⟩ := HK.out w5 hc5 hg5; have HZ : Hid (z = 0 ∨ z = 1) := hide (by omega); have HKS : Hid ((w5.setCell ⟨gr, x, none⟩ (.int .i64 z)).cell? ⟨gv, y, none⟩ = some (.slice (some ⟨gr, 0, none⟩) C cr)) := hide (by rw [World.cell?_setCell_other _ _ _ _ (fun e => hgg (congrArg Addr.block e).symm)]; exact k1); replace hc5 := hide hc5; replace hg5 := hide hg5))
          go_wp2
          go_roundw
          case rel =>
            have hg := grown_undrew hg5.out
            have ho5 := ownMat_cur HO.out hg (by omega)
            obtain ⟨g7, c7, hrow7, -, -, -, -, hset⟩ := ownMat_cell ho5 y x hlt hlx
            rw [k1] at hrow7
            simp only [Option.some.injEq, Value.slice.injEq, Addr.mk.injEq] at hrow7
            obtain ⟨⟨rfl, -, -⟩, -, -⟩ := hrow7
            exact ⟨x + 1, _, by omega, by go_num, img_upd HM.out y x HZ.out, (by have := hg.size; simp [World.setCell]; omega), hset z, curAt_within hc5.out (heap_setCell_other _ _ _ _ (by show B ≠ gr; omega)), inBytes_below (inBytes_grown HIB.out hg hbase) ((Below.refl _ _).setCell (by show base ≤ gr; omega) _), (HB.out.trans (grown_below hg (fun k hk => by cases hk; exact Nat.le_refl _) (by have := curAt_lt HCu.out; omega))).setCell (by show B ≤ gr; omega) _⟩
          case measure => simp [intOf]; omega
        · obtain rfl : x = C := by omega
          go_wp2
          go_roundw
          case rel => exact ⟨y + 1, f, by omega, by go_num, HM.out, hhi, HO.out, HCu.out, HIB.out, HB.out⟩
          case measure => simp [intOf]; omega
    · obtain rfl : y = R := by omega
      go_wp2
      go_ret
      exact ⟨_, y, C, f, rfl, HM.out, HMOST.out, ownMat_mono HO.out (Nat.le_refl _) hhi, HCu.out, HB.out⟩

theorem l02Draw_any (B n : Nat) (a : Option Addr) (most : Nat) (w : World) (base : Nat) (hm0 : 1 ≤ most) (hm1 : most ≤ 5) (hc : CurAt w B a n) (hin : InBytes w base a n) (hbase : base ≤ B) :
    Calls Tryz.prog 41 #[.pointer (some ⟨B, 0, none⟩), .int .i64 most] w (DrawnImg w B a n) :=
  (l02Draw_most B n a most w base hm0 hm1 hc hin hbase).mono fun _ _ ⟨v, R, C, f, h1, h2, _, h3, h4, h5⟩ => ⟨v, R, C, f, h1, h2, h3, h4, h5⟩

/-- What the laws' makers answer: some image. -/
def MadeImg (w : World) (e : Ending) (w' : World) : Prop := ∃ (v : Value) (R C : Nat) (f : Nat → Nat → Int), e = .returned v ∧ Img R C f ∧ OwnMat w' w.heap.size w'.heap.size v (mkM R C f) ∧ Below w.heap.size w w'
set_option maxHeartbeats 400000 in
theorem makeImage_any (n c : Nat) (a : Option Addr) (m : Nat) (w : World) (base : Nat) (hin : InBytes w base a n) (hn : n ≤ 2000000) (hm : m ≤ 1000) :
    Calls Tryz.prog 12 #[.slice a n c, .int .i64 m, .int .i64 5] w (MadeImg w) := by
  have HI := hide hin
  clear hin
  go_enter Tryz.func12, Tryz.ntmps12
  go_wp2_with fail
  refine (l18New_any n c a m _ base HI.out hn hm).mono ?_
  rintro e w1 ⟨rfl, hc, hb, hlt⟩
  have HC := hide hc; have HB := hide hb; have hs1 := hb.size
  have HI1 := hide (inBytes_below HI.out (hb.mono HI.out.2.1))
  clear hc hb
  go_wp2_with fail
  refine (l02Draw_any _ n a 5 _ base (by omega) (by omega) HC.out HI1.out HI.out.2.1).mono ?_
  rintro e w2 ⟨v, R, C, f, rfl, him, ho, -, hb⟩
  have HIM := hide him; have HO := hide (ownMat_mono ho hs1 (Nat.le_refl _)); have HB2 := hide (HB.out.trans hb)
  clear him ho hb
  go_wp2
  go_ret
  exact ⟨v, R, C, f, rfl, HIM.out, HO.out, HB2.out⟩

/-- What MakeSized answers: an image of the size asked. -/
def SizedImg (R C : Nat) (w : World) (e : Ending) (w' : World) : Prop := ∃ (v : Value) (f : Nat → Nat → Int), e = .returned v ∧ Img R C f ∧ OwnMat w' w.heap.size w'.heap.size v (mkM R C f) ∧ Below w.heap.size w w'
set_option maxRecDepth 100000 in
set_option maxHeartbeats 1000000 in
theorem makeSized_any (n c : Nat) (a : Option Addr) (m R C : Nat) (w : World) (base : Nat) (hin : InBytes w base a n) (hn : n ≤ 2000000) (hm : m ≤ 1000) (hR5 : 1 ≤ R ∧ R ≤ 5) (hC5 : 1 ≤ C ∧ C ≤ 5) :
    Calls Tryz.prog 23 #[.slice a n c, .int .i64 m, .int .i64 R, .int .i64 C] w (SizedImg R C w) := by
  have HI := hide hin
  have hbase := hin.2.1
  clear hin
  go_enter Tryz.func23, Tryz.ntmps23
  go_wp2_with fail
  refine (l18New_any n c a m _ base HI.out hn hm).mono ?_
  rintro e w0 ⟨rfl, hc, hb, hBw⟩
  have HC0 := hide hc; have HB0 := hide hb; have HI0 := hide (inBytes_below HI.out (hb.mono HI.out.2.1))
  clear hc hb HI
  obtain ⟨B, hB⟩ : ∃ B, w.heap.size = B := ⟨_, rfl⟩
  rw [hB] at HC0 HB0 hBw hbase ⊢
  have HEB := hide hB
  clear hB
  go_wp2_with fail
  rw [show max (1 : Int) (min (R : Int) 5) = R by omega, show max (1 : Int) (min (C : Int) 5) = C by omega]
  refine (l02Empty_any R C _ hR5.2 hC5.2).mono ?_
  rintro e w3 ⟨v3, rfl, o3, b3⟩
  obtain ⟨gv, cv, rfl⟩ := ownMat_some o3 (by rw [mkM_len]; omega)
  rw [mkM_len] at *
  have B3 := hide (HB0.out.trans (b3.mono (by omega)))
  have C3 := hide (curAt_below HC0.out b3)
  have I3 := hide (inBytes_below HI0.out (b3.mono (by omega)))
  have O3 := hide o3
  have IM3 := hide (img_zero hR5 hC5)
  obtain ⟨hi, hhi⟩ : ∃ hi, hi = w3.heap.size := ⟨_, rfl⟩
  have hge : hi ≤ w3.heap.size := by omega
  rw [← hhi] at O3
  clear HC0 HI0 o3 b3 hhi
  go_wp2
  go_loopw [25] (fun i w' => ∃ (y : Nat) (f : Nat → Nat → Int), y ≤ R ∧ i = .int .i64 y ∧ Img R C f ∧ hi ≤ w'.heap.size ∧ OwnMat w' w0.heap.size hi (.slice (some ⟨gv, 0, none⟩) R cv) (mkM R C f) ∧ CurAt w' B a n ∧ InBytes w' base a n ∧ Below B w w') (fun i _ => R - (intOf i).toNat)
  case atStart => exact ⟨0, zeroM, by omega, rfl, IM3.out, hge, O3.out, C3.out, I3.out, B3.out⟩
  case round =>
    clear B3 C3 I3 O3 IM3 hge
    obtain ⟨y, f, hy, rfl, him, hhi, hown, hcu, hib, hb⟩ := hrel
    have HM := hide him; have HO := hide hown; have HCu := hide hcu; have HIB := hide hib; have HB := hide hb
    clear him hown hcu hib hb
    by_cases hlt : y < R
    · have hyI : (y : Int) < R := by omega
      obtain ⟨g0, c0, hrow0, -⟩ := ownMat_cell HO.out y 0 hlt (by omega)
      go_wp2
      clear hrow0
      go_loopw [33] (fun i w' => ∃ (x : Nat) (f : Nat → Nat → Int), x ≤ C ∧ i = .int .i64 x ∧ Img R C f ∧ hi ≤ w'.heap.size ∧ OwnMat w' w0.heap.size hi (.slice (some ⟨gv, 0, none⟩) R cv) (mkM R C f) ∧ CurAt w' B a n ∧ InBytes w' base a n ∧ Below B w w') (fun i _ => C - (intOf i).toNat)
      case atStart => exact ⟨0, f, by omega, rfl, HM.out, hhi, HO.out, HCu.out, HIB.out, HB.out⟩
      case round =>
        clear HM HO HCu HIB HB hhi f
        obtain ⟨x, f, hx, rfl, him, hhi, hown, hcu, hib, hb⟩ := hrel
        have HM := hide him; have HO := hide hown; have HCu := hide hcu; have HIB := hide hib; have HB := hide hb
        clear him hown hcu hib hb
        by_cases hlx : x < C
        · have hxI : (x : Int) < C := by omega
          obtain ⟨gr, cr, hrow, hcl, hfr, hlo, hgh, -⟩ := ownMat_cell HO.out y x hlt hlx
          have hgv : gv ≠ B := by
            obtain ⟨vs, hvs, -⟩ := HO.out
            have := (hvs.lt gv rfl).1; omega
          have HK : Hid (∀ w5, CurAt w5 B a n → wr.drew.grownBy w5 (some B) → w5.cell? ⟨gv, y, none⟩ = some (.slice (some ⟨gr, 0, none⟩) C cr) ∧ w5.cell? ⟨gr, x, none⟩ = some (.int .i64 (f y x)) ∧ w5.frozen? ⟨gr, x, none⟩ = false) := hide fun w5 hc hg => cells_kept hg hrow hcl hfr hgv (by omega)
          have hgg : gv ≠ gr := ownMat_apart HO.out y (by rw [mkM_len]; exact hlt) hrow
          have HCd : Hid (CurAt wr.drew B a n) := hide HCu.out
          have HId : Hid (InBytes wr.drew base a n) := hide HIB.out
          go_wp2
          go_region_held3 (fun w' => w'.cell? ⟨gv, y, none⟩ = some (.slice (some ⟨gr, 0, none⟩) C cr))
            (first | exact hrow | exact k1 | exact HKS.out)
            (first | (go_at_call 62; refine (l01Below_any B n a 2 _ base (by omega) (by omega) HCd.out HId.out hbase).mono ?_; rintro e w5 ⟨z, hz0, hz1, rfl, hc5, hg5⟩; obtain ⟨k1, k2, k3⟩ := HK.out w5 hc5 hg5; have HZ : Hid (z = 0 ∨ z = 1) := hide (by omega); have HKS : Hid ((w5.setCell ⟨gr, x, none⟩ (.int .i64 z)).cell? ⟨gv, y, none⟩ = some (.slice (some ⟨gr, 0, none⟩) C cr)) := hide (by rw [World.cell?_setCell_other _ _ _ _ (fun e => hgg (congrArg Addr.block e).symm)]; exact k1); replace hc5 := hide hc5; replace hg5 := hide hg5))
          go_wp2
          go_roundw
          case rel =>
            have hg := grown_undrew hg5.out
            have ho5 := ownMat_cur HO.out hg (by omega)
            obtain ⟨g7, c7, hrow7, -, -, -, -, hset⟩ := ownMat_cell ho5 y x hlt hlx
            rw [k1] at hrow7
            simp only [Option.some.injEq, Value.slice.injEq, Addr.mk.injEq] at hrow7
            obtain ⟨⟨rfl, -, -⟩, -, -⟩ := hrow7
            exact ⟨x + 1, _, by omega, by go_num, img_upd HM.out y x HZ.out, (by have := hg.size; simp [World.setCell]; omega), hset z, curAt_within hc5.out (heap_setCell_other _ _ _ _ (by show B ≠ gr; omega)), inBytes_below (inBytes_grown HIB.out hg hbase) ((Below.refl _ _).setCell (by show base ≤ gr; omega) _), (HB.out.trans (grown_below hg (fun k hk => by cases hk; exact Nat.le_refl _) (by have := curAt_lt HCu.out; omega))).setCell (by show B ≤ gr; omega) _⟩
          case measure => simp [intOf]; omega
        · obtain rfl : x = C := by omega
          go_wp2
          go_roundw
          case rel => exact ⟨y + 1, f, by omega, by go_num, HM.out, hhi, HO.out, HCu.out, HIB.out, HB.out⟩
          case measure => simp [intOf]; omega
    · obtain rfl : y = R := by omega
      go_wp2
      go_ret
      exact ⟨_, f, rfl, HM.out, ownMat_mono HO.out (by have := HB0.out.size; exact this) hhi, by rw [HEB.out]; exact HB.out⟩

end Go.Proofs.YtcliiefedmiokaaGreat
/-
  What the laws draw for weights: numbers from -5 to 5, of a size.
-/
namespace Go.Proofs.YtcliiefedmiokaaGreat
open Go.RowKit

/-- Rows of this length, of small numbers. -/
def RowsW (C : Nat) (k : List (List Int)) : Prop := ∀ q ∈ k, q.length = C ∧ ∀ z ∈ q, -5 ≤ z ∧ z ≤ 5
theorem rowsW_push {C : Nat} {k : List (List Int)} {q : List Int} (h : RowsW C k) (hq : q.length = C ∧ ∀ z ∈ q, -5 ≤ z ∧ z ≤ 5) : RowsW C (k ++ [q]) := fun p hp => by
  rcases List.mem_append.1 hp with hp | hp
  · exact h p hp
  · rw [List.mem_singleton.1 hp]; exact hq
theorem rowsW_mk {R C : Nat} {k : List (List Int)} (h : RowsW C k) (hk : k.length = R) : sizeB k R C (-100) 100 = true := by
  rw [sizeB, beq_iff_eq.2 hk, Bool.true_and, List.all_eq_true]
  intro q hq
  obtain ⟨h1, h2⟩ := h q hq
  rw [sizeRow, beq_iff_eq.2 h1, Bool.true_and, List.all_eq_true]
  intro z hz
  have := h2 z hz
  exact decide_eq_true (by omega)
/-- What stands while they are drawn: the cursor and the code. -/
structure WkSt (w : World) (B n base : Nat) (a : Option Addr) (W : World) : Prop where
  cur : CurAt W B a n
  code : InBytes W base a n
  below : Below w.heap.size w W
theorem wkSt_below {w : World} {B n base T : Nat} {a : Option Addr} {W W' : World} (h : WkSt w B n base a W) (hb : Below T W W') (hT : B < T) (hbase : base ≤ B) (hw : w.heap.size = B) : WkSt w B n base a W' :=
  ⟨curAt_within h.cur (hb.block B hT), inBytes_below h.code (hb.mono (by omega)), h.below.trans (hb.mono (by omega))⟩
theorem wkSt_drawn {w : World} {B n base : Nat} {a : Option Addr} {W W' : World} (h : WkSt w B n base a W) (hc : CurAt W' B a n) (hg : W.grownBy W' (some B)) (hbase : base ≤ B) (hw : w.heap.size = B) : WkSt w B n base a W' :=
  ⟨hc, inBytes_grown h.code hg hbase, by rw [hw]; exact below_drawnW h.below hg hw⟩
where
  below_drawnW {w W W' : World} {B : Nat} (h : Below w.heap.size w W) (hg : W.grownBy W' (some B)) (hw : w.heap.size = B) : Below B w W' := by
    have := below_drawn h hg (by omega)
    rwa [hw] at this
/-- What MakeWeights answers. -/
def MadeW (R C : Nat) (w : World) (e : Ending) (w' : World) : Prop := ∃ (v : Value) (k : List (List Int)), e = .returned v ∧ k.length = R ∧ RowsW C k ∧ InMat w' v k ∧ Below w.heap.size w w'
set_option maxRecDepth 100000 in
set_option maxHeartbeats 2000000 in
theorem makeWeights_any (n c : Nat) (a : Option Addr) (m R C : Nat) (w : World) (base : Nat) (hin : InBytes w base a n) (hn : n ≤ 2000000) (hm : m ≤ 1000) (hR5 : 1 ≤ R ∧ R ≤ 5) (hC5 : 1 ≤ C ∧ C ≤ 5) :
    Calls Tryz.prog 27 #[.slice a n c, .int .i64 m, .int .i64 R, .int .i64 C] w (MadeW R C w) := by
  have HI := hide hin
  have hbase0 := hin.2.1
  clear hin
  obtain ⟨hR1, hR⟩ := hR5
  obtain ⟨hC1, hC⟩ := hC5
  go_enter Tryz.func27, Tryz.ntmps27
  go_wp2_with fail
  refine (l18New_any n c a m _ base HI.out hn hm).mono ?_
  rintro e w1 ⟨rfl, hc, hb, hlt⟩
  obtain ⟨B, hB⟩ : ∃ B, B = w.heap.size := ⟨_, rfl⟩
  have HBE := hide hB
  have HST0 : Hid (WkSt w B n base a w1) := hide ⟨by rw [hB]; exact hc, inBytes_below HI.out (hb.mono hbase0), hb⟩
  rw [← hB] at hlt hbase0 ⊢
  have hbase : base ≤ B := hbase0
  clear hc hb hB
  have HK0 : Hid (OwnMat (w1.alloc (.cells #[] 30)) w1.heap.size (w1.alloc (.cells #[] 30)).heap.size (.slice (some ⟨w1.heap.size, 0, none⟩) 0 0) []) := hide ⟨[], World.ownsRow_made (base := w1.heap.size) w1 #[] 0 (Nat.le_refl _) (Nat.zero_le _) rfl, (fun k e => by simp [Value.ownBlock] at e; subst e; simp), (fun i h => absurd h (Nat.not_lt_zero _)), fun i j _ h => absurd h (Nat.not_lt_zero _)⟩
  have HAL := hide ((Below.refl w1.heap.size w1).alloc (Nat.le_refl _) (.cells #[] 30))
  have HST1 := hide (wkSt_below HST0.out HAL.out hlt hbase HBE.out.symm)
  have HSZ1 : Hid (w1.heap.size + 1 ≤ (w1.alloc (.cells #[] 30)).heap.size) := hide (by simp)
  obtain ⟨hi, hhi⟩ : ∃ hi, hi = w1.heap.size := ⟨_, rfl⟩
  rw [← hhi] at HK0 HSZ1 hlt
  have HHI := hide hhi
  go_wp2
  rw [← HHI.out]
  clear HAL HST0 hhi
  go_loopw [10, 11] (fun u i W => ∃ (y : Nat) (k : List (List Int)) (uk : Value), y ≤ R ∧ i = .int .i64 y ∧ uk = u ∧ OwnMat W hi W.heap.size uk k ∧ (k.length = y ∧ RowsW C k) ∧ WkSt w B n base a W ∧ hi + 1 ≤ W.heap.size) (fun _ i _ => R - (intOf i).toNat)
  case atStart => exact ⟨0, [], _, Nat.zero_le _, rfl, rfl, HK0.out, ⟨rfl, fun q hq => by cases hq⟩, HST1.out, HSZ1.out⟩
  case round =>
    clear HK0 HST1 HSZ1 HHI
    obtain ⟨y, k, uk, hy, rfl, rfl, hk, hkk, hst, hsz⟩ := hrel
    obtain ⟨au, cu, rfl⟩ : ∃ au cu, uk = Value.slice au k.length cu := by obtain ⟨vs, hv, -⟩ := id hk; obtain ⟨a', c', e⟩ := own_slice hv; exact ⟨a', c', e⟩
    obtain ⟨hkl, hrm⟩ := hkk
    rw [hkl] at hk ⊢
    have HK := hide hk; have HRM := hide hrm; have HST := hide hst; have HKL := hide hkl
    clear hk hrm hst hkl
    have hmin : min (R : Int) 5 = R := by omega
    have hmax : max (1 : Int) (R : Int) = R := by omega
    by_cases hlt2 : y < R
    · have hyI : (y : Int) < R := by omega
      have HSA : Hid ((wr.alloc (.cells #[] 3)).heap.size = wr.heap.size + 1) := hide (by simp)
      have HAL := hide ((Below.refl wr.heap.size wr).alloc (Nat.le_refl _) (.cells #[] 3))
      have HX : Hid ((wr.alloc (.cells #[] 3)).ownsRow wr.heap.size 3 1 (.slice (some ⟨wr.heap.size, 0, none⟩) 0 0) 0 []) := hide (World.ownsRow_made (base := wr.heap.size) wr #[] 0 (Nat.le_refl _) (Nat.zero_le _) rfl)
      obtain ⟨rb, hrb⟩ : ∃ rb, rb = wr.heap.size := ⟨_, rfl⟩
      have HRB := hide hrb
      have HKA := hide (show OwnMat (wr.alloc (.cells #[] 3)) hi rb (.slice au y cu) k by rw [hrb]; exact ownMat_below HK.out HAL.out)
      have HSTA := hide (wkSt_below HST.out HAL.out (by omega) hbase HBE.out.symm)
      have hrbh : hi + 1 ≤ rb := by omega
      clear hrb
      go_wp2
      rw [← HRB.out] at HX ⊢
      go_loopw [12, 13] (fun u i W => ∃ (x : Nat) (q : List Int) (uq : Value), x ≤ C ∧ i = .int .i64 x ∧ uq = u ∧ W.ownsRow rb 3 1 uq x (ints q) ∧ (q.length = x ∧ ∀ z ∈ q, -5 ≤ z ∧ z ≤ 5) ∧ OwnMat W hi rb (.slice au y cu) k ∧ rb < W.heap.size ∧ WkSt w B n base a W) (fun _ i _ => C - (intOf i).toNat)
      case atStart => exact ⟨0, [], _, Nat.zero_le _, rfl, rfl, HX.out, ⟨rfl, fun z hz => by cases hz⟩, HKA.out, by rw [HSA.out]; have := HRB.out; omega, HSTA.out⟩
      case round =>
        clear HX HKA HSTA HST HK HAL HSA
        obtain ⟨x, q, uq, hx, rfl, rfl, ho, hq, hk, hszr, hst⟩ := hrel
        obtain ⟨aq, cq, rfl⟩ := own_slice ho
        obtain ⟨hql, hqr⟩ := hq
        have HO := hide ho; have HKA := hide hk; have HST := hide hst; have HQL := hide hql; have HQR := hide hqr
        clear ho hk hst hql hqr
        have hminC : min (C : Int) 5 = C := by omega
        have hmaxC : max (1 : Int) (C : Int) = C := by omega
        by_cases hlx : x < C
        · have hxI : (x : Int) < C := by omega
          go_wp2_with fail
          refine (l01Below_any B n a 11 _ base (by omega) (by omega) HST.out.cur HST.out.code hbase).mono ?_
          rintro e W5 ⟨p, hp0, hp1, rfl, hc5, hg5⟩
          have HST5 := hide (wkSt_drawn HST.out hc5 hg5 hbase HBE.out.symm)
          have HO5 := hide (HO.out.kept hg5 (Or.inr fun e => by have h := (HO.out.lt B (by rw [e])).1; omega))
          have HKA5 := hide (ownMat_cur HKA.out hg5 (by omega))
          have hs5 := hg5.size
          clear hc5 hg5
          have hx5 : x ≤ 5 := by omega
          go_wp2_with (at_builtin; refine wpList_push HO5.out (.int .i64 (p - 5)) (.int .i64 0) rfl _ _ rfl Tryz.underlying30 Tryz.infoInt rfl (by decide) rfl rfl rfl (by omega) (by omega) ?_; intro v' w6 hown1 hb1 hg1)
          go_roundw
          case rel =>
            have hs6 := hb1.size
            have e : ints (q ++ [p - 5]) = ints q ++ [.int .i64 (p - 5)] := by simp [ints]
            refine ⟨x + 1, q ++ [p - 5], _, by omega, by go_num, rfl, by rw [e]; exact hown1, ⟨by rw [List.length_append, List.length_singleton, HQL.out], fun z hz => ?_⟩, ownMat_within HKA5.out (lo' := rb) (hi' := W5.heap.size) ⟨hb1.os, hb1.tape, hb1.output, hb1.size, fun k hk hn => hb1.block k (by omega)⟩ (.inl (Nat.le_refl _)), by omega, wkSt_below HST5.out hb1 (by omega) hbase HBE.out.symm⟩
            rcases List.mem_append.1 hz with hz | hz
            · exact HQR.out z hz
            · rw [List.mem_singleton.1 hz]; omega
          case measure => simp [intOf]; omega
        · obtain rfl : x = C := by omega
          obtain ⟨vs, hv, hvh, hvr, hva⟩ := HKA.out
          rw [HKL.out] at hv
          have HV := hide hv; have HVR := hide hvr; have HVA := hide hva
          clear hv hvh hvr hva
          go_wp2_with (at_builtin; refine wpList_push HV.out (.slice aq x cq) (.slice none 0 0) rfl _ _ rfl Tryz.underlying22 Tryz.infoInts rfl (by decide) rfl rfl rfl (by omega) (by omega) ?_; intro v' w6 hown1 hb1 hg1)
          go_roundw
          case rel =>
            have hs6 := hb1.size
            have hql := HQL.out
            have hkl := HKL.out
            have hp := ownMat_push (w := wr) (r := q) (hi := rb) (hi' := w6.heap.size) HVR.out HVA.out (by rw [hkl]; exact HV.out) (by rw [hql]; exact HO.out) (by omega) (by omega) (by omega) hg1 (by rw [hkl]; exact hown1) (fun q e => (hown1.lt q e).2)
            exact ⟨y + 1, k ++ [q], _, by omega, by go_num, rfl, hp, ⟨by rw [List.length_append, List.length_singleton, hkl], rowsW_push HRM.out ⟨hql, HQR.out⟩⟩, wkSt_below HST.out hb1 (by omega) hbase HBE.out.symm, by omega⟩
          case measure => simp [intOf]; omega
    · obtain rfl : y = R := by omega
      go_wp2
      go_ret
      exact ⟨_, k, rfl, HKL.out, HRM.out, inMat_own HK.out, HST.out.below⟩
end Go.Proofs.YtcliiefedmiokaaGreat
/-
  Switches as values and in variables; a cell of an image; whether a switch is one of an image.
-/
namespace Go.Proofs.YtcliiefedmiokaaGreat
open Go.RowKit

def swA (s : Sw) : Array Value := #[.int .i64 s.y1, .int .i64 s.y2, .int .i64 s.x1, .int .i64 s.x2]
def swV (s : Sw) : Value := .agg (swA s)
/-- A switch in a variable. -/
def SwAt (w : World) (g : Nat) (s : Sw) : Prop := w.heap[g]? = some (.cells (swA s) 77 (0, 0))
theorem swAt_lt {w : World} {g : Nat} {s : Sw} (h : SwAt w g s) : g < w.heap.size := (Array.getElem?_eq_some_iff.1 h).1
theorem swAt_below {w w' : World} {g : Nat} {s : Sw} (h : SwAt w g s) (hb : Below w.heap.size w w') : SwAt w' g s := by
  unfold SwAt; rw [hb.block g (swAt_lt h)]; exact h
theorem swAt_grown {w w' : World} {g : Nat} {s : Sw} {row : Option Nat} (h : SwAt w g s) (hg : w.grownBy w' row) (hr : row ≠ some g) : SwAt w' g s := by
  unfold SwAt; rw [hg.block g (swAt_lt h) (Ne.symm hr)]; exact h
theorem swAt_cells {w : World} {g : Nat} {s : Sw} (h : SwAt w g s) : w.cell? ⟨g, 0, none⟩ = some (.int .i64 s.y1) ∧ w.cell? ⟨g, 1, none⟩ = some (.int .i64 s.y2) ∧ w.cell? ⟨g, 2, none⟩ = some (.int .i64 s.x1) ∧ w.cell? ⟨g, 3, none⟩ = some (.int .i64 s.x2) :=
  ⟨by rw [cell_of_row w g 0 _ _ _ h]; rfl, by rw [cell_of_row w g 1 _ _ _ h]; rfl, by rw [cell_of_row w g 2 _ _ _ h]; rfl, by rw [cell_of_row w g 3 _ _ _ h]; rfl⟩
theorem Tryz.sizeSw : (Tryz.prog.info? 77).map (·.size) = some 4 := by kernel_rfl
theorem swA_size (s : Sw) : (swA s).size = 4 := rfl
theorem swA_one (s : Sw) : (swA s).all (·.oneCell') = true := by simp [swA, Value.oneCell']
theorem wpList_loadSw {ops : Array Oper} {rest : List Oper} {o : Oper} {a : Act} {Q : Exit → Act → World → Prop} {W : World} {g : Nat} {s : Sw} (hb : SwAt W g s)
    (d : Tmp) (_hd : o.dst = some d) (hgd : o.guard = none) (x : Operand) (ho : o.op = .load 77 x) (hx : a.eval x = .pointer (some ⟨g, 0, none⟩))
    (h : wpList Tryz.prog ops Q rest (a.put o.dst (swV s)) W) : wpList Tryz.prog ops Q (o :: rest) a W :=
  wpList_load_row hgd _ x ho g hx _ _ (0, 0) _ hb Tryz.underlying77 rfl Tryz.sizeSw h
theorem exec_loadSw {ρ : Operand → Value} {o : Oper} {w : World} {x : Operand} {g : Nat} {s : Sw} (ho : o.op = .load 77 x) (hx : ρ x = .pointer (some ⟨g, 0, none⟩)) (hb : SwAt w g s) : (execOp ρ o).run Tryz.prog w = .ok (.value (swV s)) w := by
  unfold execOp
  simp only [ho, hx]
  have hc := swAt_cells hb
  obtain ⟨h0, h1, h2, h3⟩ := hc
  go_simp
  rfl
theorem swAt_new (w : World) (s : Sw) : SwAt (w.alloc (.cells (swA s) 77)) w.heap.size s := heap_alloc_new w _
/-- A switch goes into a new variable. -/
theorem wpList_boxSw {P : Program} {ops : Array Oper} {rest : List Oper} {o : Oper} {a : Act} {Q : Exit → Act → World → Prop} {W : World} (s : Sw)
    (d : Tmp) (_hd : o.dst = some d) (hgd : o.guard = none) (x : Operand) (ho : o.op = .box 77 x) (hx : a.eval x = swV s)
    (h : ∀ w', SwAt w' W.heap.size s → Below W.heap.size W w' → w'.heap.size = W.heap.size + 1 → wpList P ops Q rest (a.put o.dst (.pointer (some ⟨W.heap.size, 0, none⟩))) w') : wpList P ops Q (o :: rest) a W := by
  refine wpList_plain hgd fun K hK => ?_
  unfold Oper.wp execOp
  simp only [ho, hx, Instr.box, Sem.run_bind]
  simp [newVar, newRow, Value.cells, swV]
  exact hK _ _ (h _ (swAt_new W s) ((Below.refl _ _).alloc (Nat.le_refl _) _) (by simp))

/-- The cell of five rows of five, -1 outside. -/
def cellF (F : Nat → Int) (y x : Int) : Int := if 0 ≤ y ∧ y < 5 ∧ 0 ≤ x ∧ x < 5 then F (5 * y.toNat + x.toNat) else -1
theorem cell_any (F : Nat → Int) (y x : Int) (w : World) :
    Calls Tryz.prog 108 #[.agg (vec 25 F), .int .i64 y, .int .i64 x] w fun e w' => e = .returned (.int .i64 (cellF F y x)) ∧ Below w.heap.size w w' := by
  by_cases h : y < 0 ∨ 5 ≤ y ∨ x < 0 ∨ 5 ≤ x
  · have := cell_out F y x w h
    rw [cellF, if_neg (by omega)]; exact this
  · obtain ⟨a, rfl⟩ : ∃ a : Nat, y = a := ⟨y.toNat, by omega⟩
    obtain ⟨b, rfl⟩ : ∃ b : Nat, x = b := ⟨x.toNat, by omega⟩
    have := cell_in F a b w (by omega) (by omega)
    rw [cellF, if_pos (by omega)]; exact this
/-- Whether the switch is one of the image. -/
def hasF (F : Nat → Int) (s : Sw) : Bool :=
  decide (s.y1 < s.y2) && decide (s.x1 < s.x2) && decide (cellF F s.y1 s.x1 ≠ cellF F s.y1 s.x2) && decide (cellF F s.y2 s.x1 = cellF F s.y1 s.x2) && decide (cellF F s.y2 s.x2 = cellF F s.y1 s.x1)
theorem cellF_img {R C : Nat} {f : Nat → Nat → Int} (h : Img R C f) (y x : Int) : cellF (imgF R C f) y x = if 0 ≤ y ∧ y < R ∧ 0 ≤ x ∧ x < C then f y.toNat x.toNat else -1 := by
  have hR := h.r2; have hC := h.c2
  unfold cellF
  by_cases h0 : 0 ≤ y ∧ y < 5 ∧ 0 ≤ x ∧ x < 5
  · rw [if_pos h0, imgF_at _ _ _ _ _ (by omega)]
    by_cases h1 : 0 ≤ y ∧ y < R ∧ 0 ≤ x ∧ x < C
    · rw [if_pos (by omega), if_pos h1]
    · rw [if_neg (by omega), if_neg h1]
  · rw [if_neg h0, if_neg (by omega)]
theorem hasF_img {R C : Nat} {f : Nat → Nat → Int} (h : Img R C f) (s : Sw) : hasF (imgF R C f) s = swF R C f s := by
  have hR := h.r2; have hC := h.c2
  obtain ⟨y1, y2, x1, x2⟩ := s
  rw [Bool.eq_iff_iff]
  simp only [hasF, cellF_img h, swF, four, Bool.and_eq_true, decide_eq_true_eq]
  by_cases hh : (0 ≤ y1 ∧ 0 ≤ x1) ∧ y1 < y2 ∧ x1 < x2
  · obtain ⟨⟨h1, h2⟩, h3, h4⟩ := hh
    obtain ⟨a, rfl⟩ : ∃ a : Nat, y1 = a := ⟨y1.toNat, by omega⟩
    obtain ⟨b, rfl⟩ : ∃ b : Nat, y2 = b := ⟨y2.toNat, by omega⟩
    obtain ⟨c, rfl⟩ : ∃ c : Nat, x1 = c := ⟨x1.toNat, by omega⟩
    obtain ⟨d, rfl⟩ : ∃ d : Nat, x2 = d := ⟨x2.toNat, by omega⟩
    simp only [Int.toNat_natCast]
    by_cases hb : b < R ∧ d < C
    · obtain ⟨hb, hd⟩ := hb
      have e1 := h.cell a c (by omega) (by omega); have e2 := h.cell a d (by omega) (by omega); have e3 := h.cell b c (by omega) (by omega); have e4 := h.cell b d (by omega) (by omega)
      rw [if_pos (by omega), if_pos (by omega), if_pos (by omega), if_pos (by omega)]
      omega
    · constructor
      · intro hx
        exfalso
        obtain ⟨⟨⟨⟨-, -⟩, g1⟩, g2⟩, g3⟩ := hx
        rw [if_neg (show ¬ (0 ≤ (b : Int) ∧ (b : Int) < R ∧ 0 ≤ (d : Int) ∧ (d : Int) < C) by omega)] at g3
        by_cases hc : a < R ∧ c < C
        · have := h.cell a c hc.1 hc.2
          rw [if_pos (by omega)] at g3
          omega
        · rw [if_neg (show ¬ (0 ≤ (a : Int) ∧ (a : Int) < R ∧ 0 ≤ (c : Int) ∧ (c : Int) < C) by omega)] at g1
          rw [if_neg (by omega)] at g1
          exact g1 rfl
      · rintro ⟨-, h5⟩; omega
  · constructor
    · intro hx
      exfalso
      obtain ⟨⟨⟨⟨k1, k2⟩, g1⟩, g2⟩, g3⟩ := hx
      have hn : ¬ (0 ≤ y1 ∧ 0 ≤ x1) := fun e => hh ⟨e, k1, k2⟩
      rw [if_neg (show ¬ (0 ≤ y1 ∧ y1 < R ∧ 0 ≤ x1 ∧ x1 < C) by omega)] at g1 g3
      split at g1 <;> split at g3 <;> split at g2 <;> first | omega | skip
      all_goals first | (exact g1 rfl) | skip
      all_goals (rename_i q1 q2 q3; omega)
    · rintro ⟨⟨⟨⟨k1, k2⟩, k3⟩, k4⟩, -⟩
      exact absurd ⟨⟨k1, k2⟩, k3, k4⟩ hh
end Go.Proofs.YtcliiefedmiokaaGreat
/-
  Lists of switches in memory.
-/
namespace Go.Proofs.YtcliiefedmiokaaGreat
open Go.RowKit

def cellsS (l : List Sw) : List Value := l.flatMap fun s => [.int .i64 s.y1, .int .i64 s.y2, .int .i64 s.x1, .int .i64 s.x2]
theorem cellsS_len (l : List Sw) : (cellsS l).length = l.length * 4 := by
  induction l with
  | nil => rfl
  | cons s l ih =>
    simp only [cellsS, List.flatMap_cons, List.length_append, List.length_cons, List.length_nil] at ih ⊢
    omega
theorem cellsS_snoc (l : List Sw) (s : Sw) : cellsS (l ++ [s]) = cellsS l ++ (swA s).toList := by
  simp [cellsS, swA]
theorem cellsS_at : ∀ (l : List Sw) (i : Nat) (h : i < l.length), (cellsS l)[i * 4]? = some (.int .i64 l[i].y1) ∧ (cellsS l)[i * 4 + 1]? = some (.int .i64 l[i].y2) ∧ (cellsS l)[i * 4 + 2]? = some (.int .i64 l[i].x1) ∧ (cellsS l)[i * 4 + 3]? = some (.int .i64 l[i].x2)
  | [], i, h => absurd h (Nat.not_lt_zero _)
  | s :: l, 0, _ => ⟨rfl, rfl, rfl, rfl⟩
  | s :: l, i + 1, h => by
    have := cellsS_at l i (by simpa using h)
    have e : cellsS (s :: l) = [.int .i64 s.y1, .int .i64 s.y2, .int .i64 s.x1, .int .i64 s.x2] ++ cellsS l := by simp [cellsS]
    rw [e]
    simp only [List.getElem_cons_succ]
    refine ⟨?_, ?_, ?_, ?_⟩
    · rw [List.getElem?_append_right (by simp; omega)]
      simpa [show (i + 1) * 4 - 4 = i * 4 by omega] using this.1
    · rw [List.getElem?_append_right (by simp; omega)]
      simpa [show (i + 1) * 4 + 1 - 4 = i * 4 + 1 by omega] using this.2.1
    · rw [List.getElem?_append_right (by simp; omega)]
      simpa [show (i + 1) * 4 + 2 - 4 = i * 4 + 2 by omega] using this.2.2.1
    · rw [List.getElem?_append_right (by simp; omega)]
      simpa [show (i + 1) * 4 + 3 - 4 = i * 4 + 3 by omega] using this.2.2.2
/-- The four cells of a switch. -/
def SwC (w : World) (g k : Nat) (s : Sw) : Prop := w.cell? ⟨g, k, none⟩ = some (.int .i64 s.y1) ∧ w.cell? ⟨g, k + 1, none⟩ = some (.int .i64 s.y2) ∧ w.cell? ⟨g, k + 2, none⟩ = some (.int .i64 s.x1) ∧ w.cell? ⟨g, k + 3, none⟩ = some (.int .i64 s.x2)
theorem swC_below {w w' : World} {g k : Nat} {s : Sw} (h : SwC w g k s) (hb : Below w.heap.size w w') (hg : g < w.heap.size) : SwC w' g k s :=
  ⟨below_cell hb hg h.1, below_cell hb hg h.2.1, below_cell hb hg h.2.2.1, below_cell hb hg h.2.2.2⟩
theorem swC_at {w : World} {g : Nat} {s : Sw} (h : SwAt w g s) : SwC w g 0 s := swAt_cells h
theorem wpList_loadSwC {ops : Array Oper} {rest : List Oper} {o : Oper} {a : Act} {Q : Exit → Act → World → Prop} {W : World} {g k : Nat} {s : Sw} (hb : SwC W g k s)
    (d : Tmp) (_hd : o.dst = some d) (hgd : o.guard = none) (x : Operand) (ho : o.op = .load 77 x) (hx : a.eval x = .pointer (some ⟨g, k, none⟩))
    (h : wpList Tryz.prog ops Q rest (a.put o.dst (swV s)) W) : wpList Tryz.prog ops Q (o :: rest) a W := by
  obtain ⟨h0, h1, h2, h3⟩ := hb
  refine wpList_plain hgd fun K hK => ?_
  have : (execOp a.eval o).run Tryz.prog W = .ok (.value (swV s)) W := by
    unfold execOp
    simp only [ho, hx]
    go_simp
    rfl
  unfold Oper.wp
  rw [this]
  exact hK _ _ h
theorem Tryz.zeroSwV (w : World) : (zeroValue 77).run Tryz.prog w = .ok (swV zeroSw) w := Tryz.zeroValue77 w
theorem wpList_allocSw {ops : Array Oper} {rest : List Oper} {o : Oper} {a : Act} {Q : Exit → Act → World → Prop} {W : World}
    (d : Tmp) (_hd : o.dst = some d) (hgd : o.guard = none) (ho : o.op = .alloc 77)
    (h : ∀ w', SwAt w' W.heap.size zeroSw → Below W.heap.size W w' → w'.heap.size = W.heap.size + 1 → wpList Tryz.prog ops Q rest (a.put o.dst (.pointer (some ⟨W.heap.size, 0, none⟩))) w') : wpList Tryz.prog ops Q (o :: rest) a W := by
  refine wpList_plain hgd fun K hK => ?_
  unfold Oper.wp execOp
  simp only [ho, Instr.alloc, Sem.run_bind, Tryz.zeroSwV, Result.andThen_ok]
  simp [newVar, newRow, Value.cells, swV]
  exact hK _ _ (h _ (swAt_new W zeroSw) ((Below.refl _ _).alloc (Nat.le_refl _) _) (by simp))
theorem wpList_storeSw {ops : Array Oper} {rest : List Oper} {o : Oper} {a : Act} {Q : Exit → Act → World → Prop} {W : World} {g : Nat} {s0 : Sw} (hb : SwAt W g s0) (s : Sw)
    (hgd : o.guard = none) (x y : Operand) (ho : o.op = .store 77 x y) (hx : a.eval x = .pointer (some ⟨g, 0, none⟩)) (hy : a.eval y = swV s)
    (h : ∀ w', SwAt w' g s → W.grownBy w' (some g) → w'.heap.size = W.heap.size → wpList Tryz.prog ops Q rest (a.put o.dst undef) w') : wpList Tryz.prog ops Q (o :: rest) a W := by
  refine wpList_plain hgd fun K hK => ?_
  unfold Oper.wp execOp
  simp only [ho, hx, hy, swV, Instr.storeAt, Instr.sureAddr, Sem.run_bind, Sem.run_pure, Result.andThen_ok, run_storeVar_row W g 77 77 (swA s0) (swA s) hb (by rw [Tryz.sizeSw]; rfl) rfl (swA_one s)]
  exact hK _ _ (h _ (setRow_heap W g _ _ _ (0, 0) hb) ⟨rfl, rfl, rfl, by simp, fun k hk hr => setRow_other W g k _ (fun e => hr (by rw [e]))⟩ (by simp))
/-- The slice v reads as the switches l. -/
def InSws (w : World) (v : Value) (l : List Sw) : Prop :=
  ∃ a c, v = .slice a l.length c ∧ l.length ≤ maxLen ∧ (l.length = 0 ∨ ∃ g o, a = some ⟨g, o, none⟩ ∧ g < w.heap.size ∧ ∀ i, (h : i < l.length) → SwC w g (o + i * 4) l[i])
theorem inSws_below {w w' : World} {v : Value} {l : List Sw} (h : InSws w v l) (hb : Below w.heap.size w w') : InSws w' v l := by
  obtain ⟨a, c, hv, hm, hp⟩ := h
  refine ⟨a, c, hv, hm, ?_⟩
  rcases hp with h0 | ⟨g, o, ha, hg, hc⟩
  · exact .inl h0
  · exact .inr ⟨g, o, ha, Nat.lt_of_lt_of_le hg hb.size, fun i hi => swC_below (hc i hi) hb hg⟩
theorem inSws_nil (w : World) : InSws w (.slice none 0 0) [] := ⟨none, 0, rfl, Nat.zero_le _, .inl rfl⟩
/-- The call owns the switches. -/
def OwnSws (w : World) (lo : Nat) (v : Value) (l : List Sw) : Prop := w.ownsRow lo 77 4 v l.length (cellsS l)
theorem ownSws_below {w w' : World} {lo : Nat} {v : Value} {l : List Sw} (h : OwnSws w lo v l) (hb : Below w.heap.size w w') : OwnSws w' lo v l := ownA_below h hb
theorem ownSws_base {w : World} {lo lo' : Nat} {v : Value} {l : List Sw} (h : OwnSws w lo v l) (hb : lo' ≤ lo) : OwnSws w lo' v l := ownA_base h hb
theorem ownSws_nil (w : World) (lo : Nat) : OwnSws w lo (.slice none 0 0) [] := World.ownsRow_nil _ _ _ _
theorem ownSws_cells {w : World} {lo g n c : Nat} {l : List Sw} (h : OwnSws w lo (.slice (some ⟨g, 0, none⟩) n c) l) (i : Nat) (hi : i < l.length) : SwC w g (i * 4) l[i] := by
  have hn : n = l.length := by
    rcases h.2 with ⟨e, _⟩ | ⟨g', cap, cur, e, _⟩
    · cases e
    · cases e; rfl
  subst hn
  obtain ⟨h0, h1, h2, h3⟩ := cellsS_at l i hi
  exact ⟨by rw [World.ownsRow.cellAt h _ (by omega)]; exact h0, by rw [World.ownsRow.cellAt h _ (by omega)]; exact h1, by rw [World.ownsRow.cellAt h _ (by omega)]; exact h2, by rw [World.ownsRow.cellAt h _ (by omega)]; exact h3⟩
theorem inSws_own {w : World} {lo : Nat} {v : Value} {l : List Sw} (h : OwnSws w lo v l) : InSws w v l := by
  have h' := h
  rcases h.2 with ⟨rfl, h0⟩ | ⟨g, cap, cur, rfl, hbg, hg, hc, hm, _⟩
  · exact ⟨none, 0, by rw [h0], by omega, .inl h0⟩
  · exact ⟨_, _, rfl, by omega, .inr ⟨g, 0, rfl, (Array.getElem?_eq_some_iff.1 hg).1, fun i hi => by rw [Nat.zero_add]; exact ownSws_cells h' i hi⟩⟩
theorem Tryz.infoSw : (Tryz.prog.info? 77).map (fun i => (i.zero, i.size, i.bytes)) = some (some (.agg #[.int .i64 0, .int .i64 0, .int .i64 0, .int .i64 0]), 4, 32) := by kernel_rfl
/-- The call answers switches of its own. -/
def SwsRes (l : List Sw) (w : World) (e : Ending) (w' : World) : Prop := ∃ v, e = .returned v ∧ OwnSws w' w.heap.size v l ∧ Below w.heap.size w w'
end Go.Proofs.YtcliiefedmiokaaGreat
/-
  hasSwitch of the program.
-/
namespace Go.Proofs.YtcliiefedmiokaaGreat
open Go.RowKit

theorem exec_loadVec {P : Program} {ρ : Operand → Value} {o : Oper} {w : World} {x : Operand} {g n m : Nat} {T T' e : TypeId} {F : Nat → Int} (ho : o.op = .load T' x) (hx : ρ x = .pointer (some ⟨g, 0, none⟩)) (hb : Blk w g T n F) (hu : P.underlying T' = some (.array m e)) (hi : (P.info? T').map (·.size) = some n) :
    (execOp ρ o).run P w = .ok (.value (.agg (vec n F))) w := by
  unfold execOp
  simp only [ho, hx, Instr.loadAt, Instr.sureAddr, Sem.run_bind, Sem.run_pure, Result.andThen_ok, run_loadVar_row w g T T' (vec n F) (0, 0) _ hb hu rfl (by rw [hi, vec_size])]
/-- The whole variable is read, where a guard asks for it. -/
theorem wpList_loadVecW {P : Program} {ops : Array Oper} {rest : List Oper} {o : Oper} {a : Act} {Q : Exit → Act → World → Prop} {W : World} {g n m : Nat} {T T' e : TypeId} {F : Nat → Int} (hb : Blk W g T n F)
    (d : Tmp) (_hd : o.dst = some d) (j : Nat) (want : Bool) (hg : o.guard = some (j, want)) (b : Bool) (hy : yielded ops a.tmps j = some b) (hw : b = want) (x : Operand) (ho : o.op = .load T' x) (hx : a.eval x = .pointer (some ⟨g, 0, none⟩)) (hu : P.underlying T' = some (.array m e)) (hi : (P.info? T').map (·.size) = some n)
    (h : wpList P ops Q rest (a.put o.dst (.agg (vec n F))) W) : wpList P ops Q (o :: rest) a W :=
  wpList_step fun K hK => by rw [if_pos (show Region.wanted o (yielded ops a.tmps) = true by unfold Region.wanted; rw [hg]; simp only [hy, hw, beq_self_eq_true])]; exact wp_load_row T' x ho g hx T (vec n F) (0, 0) _ hb hu rfl (by rw [hi, vec_size]) (hK _ _ h)
theorem exec_fieldSw {ρ : Operand → Value} {o : Oper} {w : World} {x : Operand} {g k : Nat} (ho : o.op = .fieldAddr 77 x k) (hx : ρ x = .pointer (some ⟨g, 0, none⟩)) (hk : k < 4) : (execOp ρ o).run Tryz.prog w = .ok (.value (.pointer (some ⟨g, k, none⟩))) w := by
  unfold execOp
  simp only [ho, hx]
  have : k = 0 ∨ k = 1 ∨ k = 2 ∨ k = 3 := by omega
  rcases this with rfl | rfl | rfl | rfl <;> go_simp
theorem exec_loadInt {ρ : Operand → Value} {o : Oper} {w : World} {x : Operand} {g k : Nat} {z : Int} (ho : o.op = .load 3 x) (hx : ρ x = .pointer (some ⟨g, k, none⟩)) (hc : w.cell? ⟨g, k, none⟩ = some (.int .i64 z)) : (execOp ρ o).run Tryz.prog w = .ok (.value (.int .i64 z)) w := by
  unfold execOp
  simp only [ho, hx]
  go_simp
end Go.Proofs.YtcliiefedmiokaaGreat
