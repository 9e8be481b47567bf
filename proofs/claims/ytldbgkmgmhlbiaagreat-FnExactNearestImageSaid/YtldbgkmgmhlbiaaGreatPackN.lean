/-
  Texts of this claim, one behind the other: BestI, HeavI, Lists, Arr2, Arr3, Arr4, Impl, Put, Dist.
-/
import Derived.Test.YtldbgkmgmhlbiaaGreatPackM
import Derived.Test.YtldbgkmgmhlbiaaGreatPackD
import Derived.Test.YtldbgkmgmhlbiaaGreatPackK
import Derived.Test.YtldbgkmgmhlbiaaGreatPackH
import Derived.Test.YtldbgkmgmhlbiaaGreatPackF
import Derived.Test.YtldbgkmgmhlbiaaGreatPackI
/-
  bestImage: the first of all images of the greatest value.
-/
namespace Go.Proofs.YtldbgkmgmhlbiaaGreat
open Go.RowKit Go.Shelf
attribute [local go_sem] Oper.semAt_some

/-- What a function value answers of an image of the list, in whatever world has grown out of w. -/
def ValFn (gv : Nat) (cv : Array Value) (vf : List (List Int) → Int) (L : List (List (List Int))) (w : World) : Prop :=
  ∀ (u : Value) (m : List (List Int)) (W : World), m ∈ L → Below w.heap.size w W → InMat W u m → Calls Tryz.prog gv (#[u] ++ cv) W fun e W' => e = .returned (.int .i64 (vf m)) ∧ Below W.heap.size W W'
/-- The best image so far in the box q, its value in the next one. -/
def BestSt (q : Nat) (vf : List (List Int) → Int) (pre : List (List (List Int))) (A : Nat → Prop) (W : World) : Prop :=
  ∃ (v : Value) (g : Int), Boxed W q 23 v ∧ Boxed W (q + 1) 3 (.int .i64 g) ∧ A q ∧ A (q + 1) ∧ (∀ k, A k → q ≤ k ∧ k < W.heap.size) ∧
    ((bestF vf pre = none ∧ v = .slice none 0 0 ∧ g = -9223372036854775808) ∨ ∃ m lo G, bestF vf pre = some (m, g) ∧ ValM v m lo G W ∧ (∀ k, G k → A k) ∧ q ≤ lo)
theorem bestSt_abid (q B : Nat) (vf : List (List Int) → Int) : AbidF B (BestSt q vf) := by
  rintro pre A W W' ⟨v, g, h1, h2, h3, h4, h5, h6⟩ - - - hs hk
  refine ⟨v, g, (hk q h1.lt (.inr h3)).trans h1, (hk _ h2.lt (.inr h4)).trans h2, h3, h4, fun k hA => ⟨(h5 k hA).1, Nat.lt_of_lt_of_le (h5 k hA).2 hs⟩, ?_⟩
  rcases h6 with h6 | ⟨m, lo, G, g1, g2, g3, g4⟩
  · exact .inl h6
  · exact .inr ⟨m, lo, G, g1, valM_agr g2 fun k hG => hk k (h5 k (g3 k hG)).2 (.inr (g3 k hG)), g3, g4⟩
theorem bestSt_slice {q : Nat} {vf : List (List Int) → Int} {pre : List (List (List Int))} {v : Value} {g : Int} {A : Nat → Prop} {W : World}
    (h : (bestF vf pre = none ∧ v = .slice none 0 0 ∧ g = -9223372036854775808) ∨ ∃ m lo G, bestF vf pre = some (m, g) ∧ ValM v m lo G W ∧ (∀ k, G k → A k) ∧ q ≤ lo) : ∃ a n c, v = .slice a n c := by
  rcases h with ⟨-, rfl, -⟩ | ⟨m, lo, G, -, ⟨vs, ⟨hv, -⟩, -⟩, -⟩
  · exact ⟨_, _, _, rfl⟩
  · obtain ⟨a, c, h⟩ := own_slice hv; exact ⟨a, _, c, h⟩

set_option maxRecDepth 100000 in
set_option maxHeartbeats 2000000 in
theorem bestImage_any (va vb : Value) (r c : List Int) (gv : Nat) (cv : Array Value) (vf : List (List Int) → Int) (w : World) (eg : ∀ args w, (callFunc gv args).run Tryz.prog w = .ok (.enter gv args) w) (ha : RowC w va r) (hb : InRow w vb c) (hs : sumsOk r c = true)
    (hvf : ValFn gv cv vf (allL r c) w) (hlo : ∀ m ∈ allL r c, -1000000 ≤ vf m ∧ vf m ≤ 1000000) :
    Calls Tryz.prog 39 #[va, vb, .func (.func gv) #[] cv] w fun e w' => ∃ v g, e = .returned (.tuple #[v, .int .i64 g]) ∧ ((bestF vf (allL r c) = none ∧ v = .slice none 0 0 ∧ g = -9223372036854775808) ∨ ∃ m, bestF vf (allL r c) = some (m, g) ∧ OwnMat w' w.heap.size w'.heap.size v m) ∧ Below w.heap.size w w' := by
  obtain ⟨q, hq⟩ : ∃ q, q = w.heap.size + 1 := ⟨_, rfl⟩
  obtain ⟨w0, hw0⟩ : ∃ w0, w0 = w.alloc (.cells #[.func (.func gv) #[] cv] 60) := ⟨_, rfl⟩
  have hs0 : w0.heap.size = w.heap.size + 1 := by rw [hw0]; simp
  obtain ⟨w1, hw1⟩ : ∃ w1, w1 = (w0.alloc (.cells #[.slice none 0 0] 23)).alloc (.cells #[.int .i64 (-9223372036854775808)] 3) := ⟨_, rfl⟩
  have B1 := hide (show Below w.heap.size w w1 by
    rw [hw1, hw0]
    exact (((Below.refl _ w).alloc (Nat.le_refl _) _).alloc (by simp) _).alloc (by simp; omega) _)
  have HS1 := hide (show w1.heap.size = w.heap.size + 3 by rw [hw1]; simp [hs0])
  have HQ := hide hq
  have HQ1 := hide (show Boxed w1 q 23 (.slice none 0 0) by
    rw [hw1, hq, ← hs0]; exact (Boxed.new w0 _ _).alloc _)
  have HQ2 := hide (show Boxed w1 (q + 1) 3 (.int .i64 (-9223372036854775808)) by
    have := Boxed.new (w0.alloc (.cells #[.slice none 0 0] 23)) 3 (.int .i64 (-9223372036854775808))
    rw [World.size_alloc, hs0] at this
    rw [hq, hw1]; exact this)
  have HQ0 := hide (show Boxed w1 w.heap.size 60 (.func (.func gv) #[] cv) by
    have h0 : Boxed w0 w.heap.size 60 (.func (.func gv) #[] cv) := by rw [hw0]; exact Boxed.new _ _ _
    rw [hw1]
    exact (h0.alloc _).alloc _)
  have HIW := hide fun w' (hw : Below w.heap.size w w') => imagesWith_any va vb r c w' (rowC_below ha hw) (inRow_below hb hw)
  have HSEQ := hide fun (W : World) (b : Nat) (A : Nat → Prop) (hW : Below w.heap.size w W) (hA : ∀ k, A k → w.heap.size ≤ k ∧ k < W.heap.size) (hA2 : ∀ k, A k → k < b) (h1 : W.cell? ⟨b, 0, none⟩ = some va) (h2 : W.cell? ⟨b + 1, 0, none⟩ = some vb) (h3 : W.cell? ⟨b + 2, 0, none⟩ = some (.func (.func 100) #[] #[])) =>
    iter_start ha hb hs hW hA h1 h2 h3 (fun x => Nat.lt_irrefl _ (hA2 _ x)) (fun x => by have := hA2 _ x; omega) (fun x => by have := hA2 _ x; omega)
  obtain ⟨L, hL⟩ : ∃ L, L = allL r c := ⟨_, rfl⟩
  rw [← hL] at HSEQ hvf hlo ⊢
  have HVF := hide hvf; have HLO := hide hlo
  obtain ⟨-, a1, c1, rfl, -, -⟩ := ha
  obtain ⟨a2, c2, rfl, -, -⟩ := hb
  obtain ⟨n1, hn1⟩ : ∃ n, n = r.length := ⟨_, rfl⟩
  obtain ⟨n2, hn2⟩ : ∃ n, n = c.length := ⟨_, rfl⟩
  rw [← hn1, ← hn2] at HIW HSEQ
  rw [← hn1, ← hn2]
  clear hn1 hn2 hL hvf hlo hs
  refine (callsIn_wide (n := 0)).1 ?_
  refine callsIn_of_wp_marks Tryz.func39 rfl trivial ?_ rfl
  simp only [Tryz.ntmps39, List.size_toArray, List.length_cons, List.length_nil, Nat.reduceAdd, Nat.reduceSub, Array.replicate_succ, Array.replicate_zero, List.push_toArray, List.append_toArray, List.nil_append, List.cons_append]
  gi_wp2_with fail
  rw [← hw0, ← hw1, show w.heap.size + 1 + 1 = q + 1 by rw [hq], ← hq]
  clear hw1 hw0 hs0 hq
  refine ⟨trivial, rfl, (callsIn_wide (n := 0)).2 ((HIW.out w1 B1.out).mono ?_)⟩
  rintro e w3 ⟨rfl, hx0, hx1, hx2, hb3, hs3⟩
  have B3 := hide (B1.out.trans (hb3.mono B1.out.size))
  have HX := hide (And.intro hx0 (And.intro hx1 hx2))
  have HS3 := hide hs3
  have HR0 := hide (show Boxed w3 w.heap.size 60 (.func (.func gv) #[] cv) from (hb3.block _ HQ0.out.lt).trans HQ0.out)
  have HST := hide (show BestSt q vf [] (fun k => k = q ∨ k = q + 1) w3 from ⟨_, _, (hb3.block _ HQ1.out.lt).trans HQ1.out, (hb3.block _ HQ2.out.lt).trans HQ2.out, .inl rfl, .inr rfl, fun k hk => by have h1 := HS1.out; have h2 := HQ.out; omega, .inl ⟨rfl, rfl, rfl⟩⟩)
  clear hx0 hx1 hx2 hb3 hs3
  gi_wp2_with fail
  refine wp_rangeEach (gf := 113) (lb := #[.pointer (some ⟨w1.heap.size, 0, none⟩), .pointer (some ⟨w1.heap.size + 2, 0, none⟩), .pointer (some ⟨w1.heap.size + 1, 0, none⟩)]) rfl (enters_of Tryz.func113 (by kernel_rfl) rfl)
    (L := L) (Val := ValM) (fun v m lo G W W' h1 _ h3 => valM_agr h1 h3) (fun k => k = q ∨ k = q + 1) (fun k hk => by have h1 := HS1.out; have h2 := HS3.out; have h3 := HQ.out; omega) (fun W4 hb4 hs4 => ?seq) rfl
    (BestSt q vf) (fun _ _ _ _ => False) (bestSt_abid _ _ _) (fun _ _ _ _ _ h => h.elim) (fun pre A W h k hk => by obtain ⟨v, g, -, -, -, -, h5, -⟩ := h; exact (h5 k hk).2) HST.out
    (fun x => { tmps := #[.slice a1 n1 c1, .slice a2 n2 c2, .func (.func gv) #[] cv, undef, undef, .pointer (some ⟨w.heap.size, 0, none⟩), .slice none 0 0, .int .i64 0, .pointer (some ⟨q, 0, none⟩), .pointer (some ⟨q + 1, 0, none⟩), x, undef, .slice a1 n1 c1, .slice a2 n2 c2, .func (.func 113) #[] #[.pointer (some ⟨w1.heap.size, 0, none⟩), .pointer (some ⟨w1.heap.size + 2, 0, none⟩), .pointer (some ⟨w1.heap.size + 1, 0, none⟩)], x, undef, undef, undef, undef, undef, undef, undef, undef, undef, undef], defers := [] }) ?assign ?body ?done ?stop
  case seq =>
    have h1 := HS1.out; have h2 := HS3.out; have h3 := HQ.out
    exact HSEQ.out W4 w1.heap.size _ (B3.out.trans (hb4.mono B3.out.size)) (fun k hk => by omega) (fun k hk => by omega) (below_cell hb4 (by omega) HX.out.1) (below_cell hb4 (by omega) HX.out.2.1) (below_cell hb4 (by omega) HX.out.2.2)
  case assign =>
    intro l2 x m lo G W K hv hK
    obtain ⟨ax, nx, cx, rfl⟩ : ∃ a n c, x = .slice a n c := by obtain ⟨vs, ⟨hv, -⟩, -⟩ := hv; obtain ⟨a, c, h⟩ := own_slice hv; exact ⟨a, _, c, h⟩
    clear hv
    gi_wp2
    exact hK
  case body =>
    intro l2 pre A m x lo G W hi hst hpre hval hlo hlo1 hAlo hG
    obtain ⟨ax, nx, cx, rfl⟩ : ∃ a n c, x = .slice a n c := by obtain ⟨vs, ⟨hv, -⟩, -⟩ := id hval; obtain ⟨a, c, h⟩ := own_slice hv; exact ⟨a, _, c, h⟩
    obtain ⟨v, g, hq1, hq2, hAq, hAq1, hAk, hbest⟩ := hi
    have hmL : m ∈ L := hpre.subset (by simp)
    have hBW : Below w.heap.size w W := below_itStep B3.out (fun k hk => by have h1 := HQ.out; omega) hst
    have HBW := hide hBW
    have HC := hide (HVF.out _ m W hmL hBW (inMat_own (valM_own hval fun k hk => (hG k hk).2)))
    have HM := hide (HLO.out m hmL)
    have HQA := hide hq1; have HQB := hide hq2; have HVAL := hide hval; have HG := hide hG; have HAL := hide hAlo; have HAK := hide hAk; have HBE := hide hbest; have HA1 := hide hAq; have HA2 := hide hAq1; have HSN := hide (bestF_snoc vf pre m)
    have HPRE := hide (fun x (hx : x ∈ pre) => hpre.subset (List.mem_append_left _ hx))
    have hc0 : W.cell? ⟨w.heap.size, 0, none⟩ = some (.func (.func gv) #[] cv) := by
      have h1 := HS1.out; have h2 := HS3.out; have h3 := HQ.out
      have hb0 : Boxed W w.heap.size 60 (.func (.func gv) #[] cv) := (hst.1.block _ HR0.out.lt (fun h => by omega)).trans HR0.out
      exact hb0.cell
    clear hst hpre hval hlo hlo1 hAlo hG hAk hbest hq1 hq2 hAq hAq1 hmL hBW
    gi_wp2_with fail
    refine ⟨trivial, rfl, (show CallsIn Fence.wide 0 _ _ _ _ _ from (callsIn_wide (n := 0)).2 (HC.out.mono ?_))⟩
    rintro e W2 ⟨rfl, hb2⟩
    have HB2 := hide hb2
    have HQA2 := hide (show Boxed W2 q 23 v from (hb2.block _ HQA.out.lt).trans HQA.out)
    have HQB2 := hide (show Boxed W2 (q + 1) 3 (.int .i64 g) from (hb2.block _ HQB.out.lt).trans HQB.out)
    obtain ⟨z, hz⟩ : ∃ z, z = vf m := ⟨_, rfl⟩
    have HZ := hide hz
    rw [← hz] at HM
    rw [← hz]
    have hg2 : -9223372036854775808 ≤ g ∧ g ≤ 1000000 := by
      rcases HBE.out with ⟨-, -, e⟩ | ⟨m', lo', G', e, -⟩
      · omega
      · have hsp := bestF_spec vf pre
        rw [e] at hsp
        obtain ⟨p1, p2, -⟩ := hsp
        have p3 := HLO.out m' (HPRE.out m' p1)
        simp only at p2
        omega
    have hc2 := HQB2.out.cell
    have hf2 := HQB2.out.frozen
    have hc1 := HQA2.out.cell
    have hf1 := HQA2.out.frozen
    obtain ⟨hg3, hg4⟩ := hg2
    obtain ⟨hz3, hz4⟩ := HM.out
    clear hb2 hz hc0
    by_cases hlt : g < z
    · have hgt : z > g := hlt
      have HLT := hide hlt
      clear hlt
      gi_wp2
      obtain ⟨W', hW'⟩ : ∃ W', W' = (W2.setCell ⟨q, 0, none⟩ (.slice ax nx cx)).setCell ⟨q + 1, 0, none⟩ (.int .i64 z) := ⟨_, rfl⟩
      rw [← hW']
      have hsz : W'.heap.size = W2.heap.size := by rw [hW']; simp [World.setCell]
      have hblk : ∀ k, k ≠ q → k ≠ q + 1 → W'.heap[k]? = W2.heap[k]? := fun k h1 h2 => by
        rw [hW']
        exact (Below.heap_setCell _ _ _ _ h2).trans (Below.heap_setCell _ _ _ _ h1)
      have hbq1 : Boxed W' q 23 (.slice ax nx cx) := by
        rw [hW']
        exact (Below.heap_setCell _ _ _ _ (Nat.ne_of_lt (Nat.lt_succ_self _))).trans (HQA2.out.set _)
      have hbq2 : Boxed W' (q + 1) 3 (.int .i64 z) := by
        have hb0 : Boxed (W2.setCell ⟨q, 0, none⟩ (.slice ax nx cx)) (q + 1) 3 (.int .i64 g) := (Below.heap_setCell _ _ _ _ (Nat.ne_of_gt (Nat.lt_succ_self _))).trans HQB2.out
        rw [hW']
        exact hb0.set _
      have hqlo : q + 1 < lo := HAL.out _ HA2.out
      have hG := HG.out
      have hB2 := HB2.out
      have hsz2 := hB2.size
      refine ⟨fun k => A k ∨ G k, ⟨_, z, hbq1, hbq2, .inl HA1.out, .inl HA2.out, fun k hk => ?_, .inr ⟨m, lo, G, ?_, valM_agr HVAL.out fun k hk => ?_, fun k hk => .inr hk, by omega⟩⟩, ⟨⟨?_, ?_, ?_, by omega, fun k hk hn => ?_⟩, fun k hk => ?_⟩⟩
      · rcases hk with hk | hk
        · have := HAK.out k hk; omega
        · have := hG k hk; omega
      · rw [HSN.out, HZ.out]
        rcases HBE.out with ⟨e, -⟩ | ⟨m', lo', G', e, -⟩
        · rw [e]; rfl
        · rw [e]; exact bestS_more (by have h := HLT.out; rw [HZ.out] at h; exact h)
      · have := hG k hk
        rw [hblk k (by omega) (by omega), hB2.block k (by omega)]
      · rw [hW']; exact hB2.os
      · rw [hW']; exact hB2.tape
      · rw [hW']; exact hB2.output
      · rw [hblk k (fun e => hn (e ▸ HA1.out)) (fun e => hn (e ▸ HA2.out)), hB2.block k hk]
      · rcases hk with hk | hk
        · exact .inl hk
        · exact .inr (.inl hk)
    · have HLT := hide hlt
      have hle : z ≤ g := by omega
      clear hlt
      gi_wp2
      have hB2 := HB2.out
      have hsz2 := hB2.size
      refine ⟨A, ⟨v, g, HQA2.out, HQB2.out, HA1.out, HA2.out, fun k hk => by have := HAK.out k hk; omega, .inr ?_⟩, ⟨⟨hB2.os, hB2.tape, hB2.output, hsz2, fun k hk _ => hB2.block k hk⟩, fun k hk => .inl hk⟩⟩
      rcases HBE.out with ⟨-, -, e⟩ | ⟨m', lo', G', e, g1, g2, g3⟩
      · omega
      · refine ⟨m', lo', G', ?_, valM_agr g1 fun k hk => hB2.block k (HAK.out k (g2 k hk)).2, g2, g3⟩
        rw [HSN.out, e]; exact bestS_less (by have h := HLT.out; rw [HZ.out] at h; show ¬ g < vf m; omega)
  case done =>
    rintro A W ⟨v, g, hq1, hq2, hAq, hAq1, hAk, hbest⟩ hst _ hmk
    obtain ⟨av, nv, cv', rfl⟩ := bestSt_slice hbest
    have hc1 := hq1.cell
    have hc2 := hq2.cell
    have HMK := hide hmk
    have HBE := hide hbest
    have HAK := hide hAk
    have HBB := hide (below_itStep B3.out (fun k hk => by have h1 := HQ.out; omega) hst)
    clear hst hmk hbest hAk hAq hAq1 hq1 hq2
    gi_wp2
    rw [wpIn_wide]
    go_quiet (fail)
    gi_wp2
    refine ⟨by simp, .inl ⟨_, _, rfl, run_takeDeferred (show (W.drewN nq).heap[w3.heap.size]? = _ from HMK.out), ?_⟩⟩
    refine ⟨_, results_tmp2 rfl _ _ _, .slice av nv cv', g, rfl, ?_, below_putObj (below_draws HBB.out nq) B3.out.size _⟩
    rcases HBE.out with h | ⟨m, lo, G, g1, g2, g3, g4⟩
    · exact .inl h
    · refine .inr ⟨m, g1, ?_⟩
      have hm : OwnMat (W.drewN nq) lo W.heap.size (.slice av nv cv') m := valM_own (valM_agr g2 fun k hk => rfl) fun k hk => (HAK.out k (g3 k hk)).2
      exact ownMat_mono (ownMat_putObj _ hm (show (W.drewN nq).heap[w3.heap.size]? = _ from HMK.out) rfl) (by have := HQ.out; omega) (by simp [World.putObj])
  case stop =>
    intro cc pre A W hpre h
    exact h.elim
end Go.Proofs.YtldbgkmgmhlbiaaGreat
/-
  HeaviestImage of the program.
-/
namespace Go.Proofs.YtldbgkmgmhlbiaaGreat
open Go.RowKit Go.Shelf

theorem heavy1_any (r c : List Int) (k : List (List Int)) (vk : Value) (q : Nat) (w : World) (hk : InMat w vk k) (he : existsOf r c = true) (hsz : sizeB k r.length c.length (-100) 100 = true) (hq : w.cell? ⟨q, 0, none⟩ = some vk) (hqs : q < w.heap.size) :
    ValFn 50 #[.pointer (some ⟨q, 0, none⟩)] (heavF r c k) (allL r c) w := by
  intro u m W hm hW hu
  obtain ⟨hmk, hI, -⟩ := allL_mk he hm
  obtain ⟨hkm, hwt⟩ := sizeB_wt hsz
  have hk2 := inMat_below hk hW
  rw [hkm] at hk2
  have hu2 := hu
  rw [hmk] at hu2
  have HB := hide (blackWeight_any vk u r.length c.length (cellM k) (cellM m) W hk2 hu2 hI hwt)
  have HF : Hid (heavF r c k m = wtS r.length c.length (cellM k) (cellM m)) := hide rfl
  rw [HF.out]
  have hq2 := below_cell hW hqs hq
  obtain ⟨ak, ck, rfl, -, -⟩ := hk
  obtain ⟨au, cu, rfl, -, -⟩ := hu
  obtain ⟨S, hS⟩ : ∃ S, S = wtS r.length c.length (cellM k) (cellM m) := ⟨_, rfl⟩
  rw [← hS] at HB ⊢
  generalize k.length = K at *
  generalize m.length = M at *
  clear hq hW hk2 hu2 hI hwt hkm hmk hm he hsz hS HF hqs
  go_enter Tryz.func50, Tryz.ntmps50
  go_wp2_with (go_at_call 51; refine HB.out.mono ?_; rintro e w2 ⟨rfl, rfl⟩)
  go_ret
  exact ⟨rfl, Below.refl _ _⟩
def PickRes (m : List (List Int)) (n : Int) (b : Bool) (w : World) (e : Ending) (w' : World) : Prop := ∃ u0, e = .returned (.tuple #[u0, .int .i64 n, .bool b]) ∧ OwnMat w' w.heap.size w'.heap.size u0 m ∧ Below w.heap.size w w'
set_option maxRecDepth 100000 in
set_option maxHeartbeats 2000000 in
theorem implHeaviest_any (va vb vk : Value) (r c : List Int) (k : List (List Int)) (w : World) (ha : RowC w va r) (hb : RowC w vb c) (hk : InMat w vk k) :
    Calls Tryz.prog 15 #[va, vb, vk] w (PickRes (heavP r c k).1 (heavP r c k).2 (heavB r c k) w) := by
  obtain ⟨w1, hw1⟩ : ∃ w1, w1 = w.alloc (.cells #[vk] 23) := ⟨_, rfl⟩
  have B1 := hide (show Below w.heap.size w w1 by rw [hw1]; exact (Below.refl _ w).alloc (Nat.le_refl _) _)
  have hs1 : w1.heap.size = w.heap.size + 1 := by rw [hw1]; simp
  have hq1 : w1.cell? ⟨w.heap.size, 0, none⟩ = some vk := by rw [hw1]; simp [World.cell?_alloc_new]
  have HE := hide (implExists_any va vb r c w1 (inRow_below ha.1 B1.out) (inRow_below hb.1 B1.out))
  cases he : existsOf r c with
  | false =>
    rw [he] at HE
    have HH : Hid (heavB r c k = false) := hide (by rw [heavB, he, Bool.false_and])
    have HP : Hid (heavP r c k = ([], 0)) := hide (by rw [heavP, HH.out]; rfl)
    rw [HH.out, HP.out]
    obtain ⟨-, a1, c1, rfl, -, -⟩ := ha
    obtain ⟨-, a2, c2, rfl, -, -⟩ := hb
    obtain ⟨a3, c3, rfl, -, -⟩ := hk
    generalize r.length = n1 at *
    generalize c.length = n2 at *
    generalize k.length = n3 at *
    clear he HH HP hs1 hq1
    go_enter Tryz.func15, Tryz.ntmps15
    go_wp2_with fail
    rw [← hw1]
    clear hw1
    go_wp2_with (go_at_call 37; refine HE.out.mono ?_; rintro e w2 ⟨rfl, b2⟩; have B2 := hide b2; clear b2)
    refine bodyPost_ret (results_tmp3 rfl _ _ _) rfl ⟨_, rfl, ownMat_nil _ _ _, B1.out.trans (B2.out.mono B1.out.size)⟩
  | true =>
    rw [he] at HE
    obtain ⟨hr5, hc5, -⟩ := sumsOk_yes (existsOf_sums he)
    have HW := hide fun w' (hw : Below w.heap.size w w') => implWeightOk_any vk k r.length c.length w' (inMat_below hk hw)
    have HQC := hide fun w' (hw : Below w1.heap.size w1 w') => below_cell hw (by omega) hq1
    cases hwb : wtB k r.length c.length with
    | false =>
      rw [hwb] at HW
      have HH : Hid (heavB r c k = false) := hide (by rw [heavB, hwb, Bool.and_false])
      have HP : Hid (heavP r c k = ([], 0)) := hide (by rw [heavP, HH.out]; rfl)
      rw [HH.out, HP.out]
      obtain ⟨-, a1, c1, rfl, -, -⟩ := ha
      obtain ⟨-, a2, c2, rfl, -, -⟩ := hb
      obtain ⟨a3, c3, rfl, -, -⟩ := hk
      obtain ⟨n1, hn1⟩ : ∃ n, n = r.length := ⟨_, rfl⟩
      obtain ⟨n2, hn2⟩ : ∃ n, n = c.length := ⟨_, rfl⟩
      obtain ⟨n3, hn3⟩ : ∃ n, n = k.length := ⟨_, rfl⟩
      rw [← hn1, ← hn2] at HE HW
      rw [← hn3] at HW HQC hw1
      rw [← hn1, ← hn2, ← hn3]
      clear he hwb HH HP hs1 hq1 hr5 hc5 hn1 hn2 hn3
      go_enter Tryz.func15, Tryz.ntmps15
      go_wp2_with fail
      rw [← hw1]
      clear hw1
      go_wp2_with (first | (go_at_call 37; refine HE.out.mono ?_; rintro e w2 ⟨rfl, b2⟩; have B2 := hide (B1.out.trans (b2.mono B1.out.size)); have hqc := HQC.out _ b2; clear b2) | (go_at_call 17; refine (HW.out _ B2.out).mono ?_; rintro e w3 ⟨rfl, b3⟩; have B3 := hide (B2.out.trans (b3.mono B2.out.size)); clear b3))
      refine bodyPost_ret (results_tmp3 rfl _ _ _) rfl ⟨_, rfl, ownMat_nil _ _ _, B3.out⟩
    | true =>
      rw [hwb] at HW
      have hsz := wtB_nat hwb
      obtain ⟨hkm, hwt⟩ := sizeB_wt hsz
      have HH : Hid (heavB r c k = true) := hide (by rw [heavB, he, hwb]; rfl)
      have HBI := hide fun w' (hw1' : Below w1.heap.size w1 w') => bestImage_any va vb r c 50 #[.pointer (some ⟨w.heap.size, 0, none⟩)] (heavF r c k) w' (enters_of Tryz.func50 (by kernel_rfl) rfl)
        (rowC_below ha (B1.out.trans (hw1'.mono B1.out.size))) (inRow_below hb.1 (B1.out.trans (hw1'.mono B1.out.size))) (existsOf_sums he) (heavy1_any r c k vk w.heap.size w' (inMat_below hk (B1.out.trans (hw1'.mono B1.out.size))) he hsz (HQC.out _ hw1') (by have := hw1'.size; omega)) (fun m hm => by have := heavF_range he hwt hm; omega)
      obtain ⟨p, hp, -⟩ := bestF_some (vf := heavF r c k) (allL_ne he)
      have HP : Hid (heavP r c k = p) := hide (by rw [heavP, HH.out, pickP, hp]; rfl)
      rw [HH.out, HP.out]
      rw [hp] at HBI
      obtain ⟨-, a1, c1, rfl, -, -⟩ := ha
      obtain ⟨-, a2, c2, rfl, -, -⟩ := hb
      obtain ⟨a3, c3, rfl, -, -⟩ := hk
      obtain ⟨n1, hn1⟩ : ∃ n, n = r.length := ⟨_, rfl⟩
      obtain ⟨n2, hn2⟩ : ∃ n, n = c.length := ⟨_, rfl⟩
      obtain ⟨n3, hn3⟩ : ∃ n, n = k.length := ⟨_, rfl⟩
      rw [← hn1, ← hn2] at HE HW HBI
      rw [← hn3] at HW HQC hw1
      rw [← hn1, ← hn2, ← hn3]
      clear he hwb HH HP hs1 hq1 hr5 hc5 hn1 hn2 hn3 hp hsz hkm hwt
      go_enter Tryz.func15, Tryz.ntmps15
      go_wp2_with fail
      rw [← hw1]
      clear hw1
      go_wp2_with (first | (go_at_call 37; refine HE.out.mono ?_; rintro e w2 ⟨rfl, b2⟩; have B2 := hide b2; have hqc := HQC.out _ b2; clear b2) | (go_at_call 17; refine (HW.out _ (B1.out.trans (B2.out.mono B1.out.size))).mono ?_; rintro e w3 ⟨rfl, b3⟩; have B3 := hide (B2.out.trans (b3.mono B2.out.size)); clear b3) | fail)
      refine (HBI.out _ B3.out).mono ?_
      rintro e w4 ⟨v, g, rfl, h | ⟨m, h1, h2⟩, b4⟩
      · exact absurd h.1 (by simp)
      · obtain rfl := Option.some.inj h1
        have HB4 := hide ((B1.out.trans (B3.out.mono B1.out.size)).trans (b4.mono (B1.out.trans (B3.out.mono B1.out.size)).size))
        have HM := hide (ownMat_mono h2 (B1.out.trans (B3.out.mono B1.out.size)).size (Nat.le_refl _))
        obtain ⟨av, nv, cv, rfl⟩ : ∃ a n c, v = .slice a n c := by obtain ⟨vs, hv, -⟩ := h2; obtain ⟨a, c, h⟩ := own_slice hv; exact ⟨a, _, c, h⟩
        clear h1 h2 b4
        go_wp2
        refine bodyPost_ret (results_tmp3 rfl _ _ _) rfl ⟨_, rfl, HM.out, HB4.out⟩
end Go.Proofs.YtldbgkmgmhlbiaaGreat
/-
  The program's images: size, lists.
-/
namespace Go.Proofs.YtldbgkmgmhlbiaaGreat
open Go.RowKit

set_option maxHeartbeats 400000 in
theorem size_any (G : Nat → Int) (n : Nat) (w : World) (hn : n ≤ 5) (h1 : ∀ j, j < n → G j ≠ -1) (h2 : n = 5 ∨ G n = -1) :
    Calls Tryz.prog 102 #[.agg (vec 5 G)] w fun e w' => e = .returned (.int .i64 n) ∧ Below w.heap.size w w' := by
  have N1 := hide h1; have N2 := hide h2
  clear h1 h2
  go_enter Tryz.func102, Tryz.ntmps102
  go_wp2_with (with_reducible refine wpList_boxVec 5 G 1 rfl rfl (.tmp 0) rfl rfl ?_; intro w1 h1 b1 s1)
  have H1 := hide h1; have B1 := hide b1
  clear h1 b1
  go_loop [3] (fun i => ∃ k : Nat, k ≤ n ∧ i = .int .i64 k) (fun i => n - (intOf i).toNat)
  case atStart => exact ⟨0, by omega, rfl⟩
  case round =>
    obtain ⟨k, hk, rfl⟩ := hrel
    by_cases hlt : k < n
    · have hx := blk_cell H1.out k (by omega)
      have hne := N1.out k hlt
      obtain ⟨y, hy⟩ : ∃ y, y = G k := ⟨_, rfl⟩
      rw [← hy] at hx hne
      have hb : (y != -1) = true := by simpa using hne
      have h5 : (k : Int) < 5 := by omega
      clear hy hne
      go_wp2
      go_round
      case rel => exact ⟨k + 1, by omega, by go_num⟩
      case measure => simp [intOf]; omega
    · obtain rfl : k = n := by omega
      by_cases h5 : k < 5
      · have hx := blk_cell H1.out k h5
        rw [N2.out.resolve_left (by omega)] at hx
        have h5' : (k : Int) < 5 := by omega
        go_wp2
        go_ret
        exact ⟨rfl, B1.out⟩
      · have h5' : ¬ (k : Int) < 5 := by omega
        go_wp2
        go_ret
        exact ⟨rfl, B1.out⟩

/-- A row of the padded image. -/
theorem imgF_row (R C : Nat) (f : Nat → Nat → Int) (y : Nat) : ∀ j, j < 5 → imgF R C f (y * 5 + j) = if y < R ∧ j < C then f y j else -1 := fun j hj => by
  rw [show y * 5 + j = 5 * y + j by omega, imgF_at R C f y j hj]

theorem ownMat_block {w w' : World} {lo hi g : Nat} {v : Value} {m : List (List Int)} (h : OwnMat w lo hi v m) (hg : w.grownBy w' (some g)) (hh : hi ≤ g) : OwnMat w' lo hi v m :=
  ownMat_within h (within_grown (lo := g) (hi := g + 1) hg fun k hk => by cases hk; exact ⟨Nat.le_refl _, Nat.lt_succ_self _⟩) (.inl hh)

set_option maxRecDepth 100000 in
set_option maxHeartbeats 1000000 in
theorem lists_any (R C : Nat) (f : Nat → Nat → Int) (w : World) (hI : Img R C f) :
    Calls Tryz.prog 76 #[.agg (vec 25 (imgF R C f))] w fun e w' => ∃ v, e = .returned v ∧ OwnMat w' w.heap.size w'.heap.size v (mkM R C f) ∧ Below w.heap.size w w' := by
  have hR := hI.r2; have hC := hI.c2; have hC1 := hI.c1
  have HI := hide hI
  clear hI
  go_enter Tryz.func76, Tryz.ntmps76
  go_wp2_with (first | (with_reducible refine wpList_boxVec 25 (imgF R C f) 1 rfl rfl (.tmp 0) rfl rfl ?_; intro w1 h1 b1 s1) | (with_reducible refine wpList_loadVec h1 7 rfl rfl _ rfl rfl Tryz.underlying72 Tryz.sizeImg ?_))
  have B1 := hide b1
  clear h1 b1 s1
  go_loopw [3, 8] (fun o i w' => ∃ (y : Nat) (v : Value), y ≤ 5 ∧ i = .int .i64 y ∧ v = o ∧ OwnMat w' w.heap.size w'.heap.size v (mkM (min y R) C f) ∧ Below w.heap.size w w') (fun _ i _ => 5 - (intOf i).toNat)
  case atStart => exact ⟨0, _, by omega, rfl, rfl, by rw [Nat.zero_min]; exact ownMat_nil _ _ _, B1.out⟩
  case round =>
    clear B1
    obtain ⟨y, v, hy, rfl, rfl, hown, hb⟩ := hrel
    have HO := hide hown; have HB := hide hb
    clear hown hb
    by_cases hlt : y < 5
    · have hyI : (y : Int) < 5 := by omega
      have HG := hide (imgF_row R C f y)
      have hsz := HB.out.size
      go_wp2_with (first | (with_reducible refine wpList_indexRow y 10 rfl rfl _ _ rfl rfl rfl Tryz.underlying72 Tryz.isAgg70 Tryz.sizeOf70 hlt (by omega) ?_) | (with_reducible refine wpList_allocVec 5 5 rfl rfl rfl Tryz.zeroRow ?_; intro w2 h2 b2 s2) | (with_reducible refine wpList_storeVec h2 rfl (.tmp 5) (.tmp 10) rfl rfl rfl Tryz.sizeRow ?_; intro w3 h3 g3 s3) | (with_reducible refine wpList_loadVec h3 11 rfl rfl _ rfl rfl Tryz.underlying70 Tryz.sizeRow ?_))
      have B3 := hide (HB.out.trans ((b2.mono hsz).trans (grown_below g3 (fun k hk => by cases hk; exact hsz) (by omega))))
      have O3 := hide (ownMat_block (ownMat_below HO.out b2) g3 (Nat.le_refl _))
      have H3 := hide h3
      have hs3 : w3.heap.size = wr.heap.size + 1 := by omega
      clear h2 b2 s2 h3 g3 s3
      by_cases hr : y < R
      · go_wp2_with fail
        refine (size_any _ C _ hC (fun j hj => ?_) ?_).mono ?_
        · rw [HG.out j (by omega), if_pos ⟨hr, hj⟩]
          rcases HI.out.cell y j hr hj with e | e <;> rw [e] <;> decide
        · by_cases e : C = 5
          · exact .inl e
          · right; rw [HG.out C (by omega), if_neg (by omega)]
        rintro e w4 ⟨rfl, b4⟩
        have H4 := hide (blk_below H3.out b4)
        have O4 := hide (ownMat_below O3.out b4)
        have B4 := hide (B3.out.trans (b4.mono (by omega)))
        have hs4 := b4.size
        clear b4
        have hpos : (0 : Int) < (C : Int) := by omega
        go_wp2_with (with_reducible refine wpList_sliceVec C 17 rfl rfl (.tmp 5) (.tmp 16) rfl rfl rfl Tryz.underlying70 Tryz.sizeOf3 hC ?_)
        refine (Tryz.slices_Clone_int wr.heap.size 0 C 5 (rowF C (f y)) _ (by rw [rowF_len]; exact Nat.le_refl _) (by omega) (fun j hj => ?_)).mono ?_
        · rw [rowF_len] at hj
          rw [Nat.zero_add, blk_cell H4.out j (by omega), HG.out j (by omega), if_pos ⟨hr, hj⟩, List.getD_eq_getElem?_getD, List.getElem?_eq_getElem (by rw [rowF_len]; exact hj), Option.getD_some, rowF_at]
        rintro e w5 ⟨u, rfl, hu, -, b5⟩
        have hu : w5.ownsRow w4.heap.size 3 1 u (rowF C (f y)).length (ints (rowF C (f y))) := by
          rw [rowF_len]
          have := hu
          rw [List.take_of_length_le (by rw [rowF_len]; exact Nat.le_refl _)] at this
          exact this
        obtain ⟨ua, uc, rfl⟩ := own_slice hu
        rw [rowF_len] at *
        have HU := hide hu
        have O5 := hide (ownMat_below O4.out b5)
        have B5 := hide (B4.out.trans (b5.mono (by omega)))
        have hs5 := b5.size
        clear hu b5
        have hmin : min y R = y := by omega
        rw [hmin] at O5
        clear hmin
        obtain ⟨vs, hv, hvh, hvr, hva⟩ := O5.out
        have hvl := mkM_len y C f
        rw [hvl] at hv
        have HV := hide hv; have HVH := hide hvh; have HVR := hide hvr; have HVA := hide hva
        clear hv hvh hvr hva hvl
        go_wp2_with (at_builtin; refine wpList_push HV.out (.slice ua C uc) (.slice none 0 0) rfl _ _ rfl Tryz.underlying23 Tryz.infoInts rfl (by decide) rfl rfl rfl (by omega) (by omega) ?_; intro v' w6 hown1 hb1 hg1)
        go_roundw
        case rel =>
          have hs6 := hb1.size
          have hp := ownMat_push (r := rowF C (f y)) (hi' := w6.heap.size) HVR.out HVA.out (by rw [mkM_len]; exact HV.out) (by rw [rowF_len]; exact own_base HU.out (by omega)) hsz (by omega) (by omega) hg1 (by rw [mkM_len]; exact hown1) (fun k e => (hown1.lt k e).2)
          rw [← mkM_succ, show y + 1 = min (y + 1) R by omega] at hp
          exact ⟨y + 1, _, by omega, by go_num, rfl, hp, B5.out.trans (hb1.mono (by omega))⟩
        case measure => simp [intOf]; omega
      · go_wp2_with fail
        refine (size_any _ 0 _ (by omega) (fun j hj => absurd hj (Nat.not_lt_zero _)) (.inr ?_)).mono ?_
        · rw [HG.out 0 (by omega), if_neg (by omega)]
        rintro e w4 ⟨rfl, b4⟩
        have O4 := hide (ownMat_below O3.out b4)
        have B4 := hide (B3.out.trans (b4.mono (by omega)))
        have hs4 := b4.size
        clear b4
        go_wp2
        go_roundw
        case rel =>
          have hp := ownMat_mono (hi' := w4.heap.size) O4.out (Nat.le_refl _) (by omega)
          rw [show min y R = min (y + 1) R by omega] at hp
          exact ⟨y + 1, _, by omega, by go_num, rfl, hp, B4.out⟩
        case measure => simp [intOf]; omega
    · have hmin : min y R = R := by omega
      rw [hmin] at HO
      clear hmin
      go_wp2
      go_ret
      exact ⟨_, rfl, HO.out, HB.out⟩
end Go.Proofs.YtldbgkmgmhlbiaaGreat
/-
  The program's images: cell, count, transposed, inverted, distance.
-/
namespace Go.Proofs.YtldbgkmgmhlbiaaGreat
open Go.RowKit

theorem row_below {w wr w2 w3 : World} (hb : Below w.heap.size w wr) (b2 : Below wr.heap.size wr w2) (g3 : w2.grownBy w3 (some wr.heap.size)) : Below w.heap.size w w3 :=
  hb.trans ((b2.mono hb.size).trans (grown_below g3 (fun k hk => by cases hk; exact hb.size) (Nat.le_trans hb.size b2.size)))
theorem row_blk {wr w2 w3 : World} {g n : Nat} {T : TypeId} {F : Nat → Int} (h : Blk wr g T n F) (b2 : Below wr.heap.size wr w2) (g3 : w2.grownBy w3 (some wr.heap.size)) : Blk w3 g T n F :=
  blk_grown (blk_below h b2) g3 (by have := blk_lt h; simp; omega)

/-- The first y columns of the exchanged image, and x cells of the next one. -/
def upT (F : Nat → Int) (y x : Nat) (i : Nat) : Int := if i % 5 < y ∨ (i % 5 = y ∧ i / 5 < x) then F (5 * (i % 5) + i / 5) else 0
theorem upT_zero (F : Nat → Int) : upT F 0 0 = fun _ => 0 := by funext i; rw [upT, if_neg (by omega)]
theorem upT_set (F : Nat → Int) (y x : Nat) (hy : y < 5) : (fun j => if j = 5 * x + y then F (5 * y + x) else upT F y x j) = upT F y (x + 1) := by
  funext j
  simp only [upT]
  by_cases e : j = 5 * x + y
  · subst e
    rw [if_pos rfl, if_pos (by omega), show (5 * x + y) % 5 = y by omega, show (5 * x + y) / 5 = x by omega]
  · rw [if_neg e]
    by_cases hl : j % 5 < y ∨ (j % 5 = y ∧ j / 5 < x)
    · rw [if_pos hl, if_pos (by omega)]
    · rw [if_neg hl, if_neg (by omega)]
theorem upT_next (F : Nat → Int) (y : Nat) : ∀ i, i < 25 → upT F y 5 i = upT F (y + 1) 0 i := fun i hi => by
  simp only [upT]
  by_cases hl : i % 5 < y + 1
  · rw [if_pos (by omega), if_pos (by omega)]
  · rw [if_neg (by omega), if_neg (by omega)]
theorem upT_all (F : Nat → Int) : ∀ i, i < 25 → upT F 5 0 i = F (5 * (i % 5) + i / 5) := fun i hi => by rw [upT, if_pos (by omega)]

set_option maxHeartbeats 1000000 in
theorem transposed_any (F : Nat → Int) (w : World) :
    Calls Tryz.prog 75 #[.agg (vec 25 F)] w fun e w' => e = .returned (.agg (vec 25 fun i => F (5 * (i % 5) + i / 5))) ∧ Below w.heap.size w w' := by
  go_enter Tryz.func75, Tryz.ntmps75
  go_wp2_with (first | (with_reducible refine wpList_boxVec 25 F 1 rfl rfl (.tmp 0) rfl rfl ?_; intro w1 h1 b1 s1) | (with_reducible refine wpList_allocVec 25 2 rfl rfl rfl Tryz.zeroImg ?_; intro wa ha ba sa) | (with_reducible refine wpList_allocVec 25 3 rfl rfl rfl Tryz.zeroImg ?_; intro wb hb bb sb) | (with_reducible refine wpList_loadVec (blk_below (blk_below h1 ba) bb) 8 rfl rfl _ rfl rfl Tryz.underlying72 Tryz.sizeImg ?_))
  have B1 := hide (b1.trans ((ba.mono (by omega)).trans (bb.mono (by omega))))
  have HR := hide (blk_below ha bb)
  have HP := hide hb
  have hsz : w.heap.size + 2 < wb.heap.size := by omega
  rw [s1] at HR sa
  rw [sa] at HP
  rw [show w.heap.size + 1 + 1 = w.heap.size + 2 by omega] at HP
  clear h1 b1 ha ba hb bb sb s1 sa
  go_loopw [9] (fun i w' => ∃ y : Nat, y ≤ 5 ∧ i = .int .i64 y ∧ Blk w' (w.heap.size + 2) 72 25 (upT F y 0) ∧ Blk w' (w.heap.size + 1) 72 25 (fun _ => 0) ∧ Below w.heap.size w w') (fun i _ => 5 - (intOf i).toNat)
  case atStart => exact ⟨0, by omega, rfl, by rw [upT_zero]; exact HP.out, HR.out, B1.out⟩
  case round =>
    clear B1 HP HR hsz
    obtain ⟨y, hy, rfl, hp, hr, hb⟩ := hrel
    have HP := hide hp; have HR := hide hr; have HB := hide hb
    clear hp hr hb
    by_cases hlt : y < 5
    · have hyI : (y : Int) < 5 := by omega
      go_wp2_with (first | (with_reducible refine wpList_indexRow y 12 rfl rfl _ _ rfl rfl rfl Tryz.underlying72 Tryz.isAgg70 Tryz.sizeOf70 hlt (by omega) ?_) | (with_reducible refine wpList_allocVec 5 5 rfl rfl rfl Tryz.zeroRow ?_; intro w2 h2 b2 s2) | (with_reducible refine wpList_storeVec h2 rfl (.tmp 5) (.tmp 12) rfl rfl rfl Tryz.sizeRow ?_; intro w3 h3 g3 s3) | (with_reducible refine wpList_loadVec h3 13 rfl rfl _ rfl rfl Tryz.underlying70 Tryz.sizeRow ?_))
      have B3 := hide (row_below HB.out b2 g3)
      have P3 := hide (row_blk HP.out b2 g3)
      have R3 := hide (row_blk HR.out b2 g3)
      clear h2 b2 s2 h3 g3 s3
      go_loopw [14] (fun i w' => ∃ x : Nat, x ≤ 5 ∧ i = .int .i64 x ∧ Blk w' (w.heap.size + 2) 72 25 (upT F y x) ∧ Blk w' (w.heap.size + 1) 72 25 (fun _ => 0) ∧ Below w.heap.size w w') (fun i _ => 5 - (intOf i).toNat)
      case atStart => exact ⟨0, by omega, rfl, P3.out, R3.out, B3.out⟩
      case round =>
        clear B3 P3 R3 HB HP HR
        obtain ⟨x, hx, rfl, hp, hr, hb⟩ := hrel
        have HP := hide hp; have HR := hide hr; have HB := hide hb
        clear hp hr hb
        by_cases hlx : x < 5
        · have hxI : (x : Int) < 5 := by omega
          have HS := hide (upT_set F y x hlt)
          have hcl := blk_cell HP.out (5 * x + y) (by omega)
          have hfr := blk_frozen HP.out (5 * x + y)
          have HA : Hid (0 + x * 5 + y * 1 = 5 * x + y) := hide (by omega)
          have HE : Hid (y * 5 + x = 5 * y + x) := hide (by omega)
          go_wp2_with (first | (with_reducible refine wpList_indexVec x 17 rfl rfl _ _ rfl rfl rfl Tryz.underlying70 Tryz.isAgg3 Tryz.sizeOf3 hlx ?_; rw [HE.out]) | (with_reducible refine wpList_indexAt x 21 rfl rfl _ _ rfl rfl rfl Tryz.underlying72 Tryz.sizeOf70 hlx ?_) | (with_reducible refine wpList_indexAt y 22 rfl rfl _ _ rfl rfl rfl Tryz.underlying70 Tryz.sizeOf3 hlt ?_; rw [HA.out]))
          go_roundw
          case rel => exact ⟨x + 1, by omega, by go_num, by have := blk_set HP.out (5 * x + y) (F (5 * y + x)); rw [HS.out] at this; exact this, blk_other HR.out _ _ (by simp), HB.out.setCell (by show w.heap.size ≤ w.heap.size + 2; omega) _⟩
          case measure => simp [intOf]; omega
        · obtain rfl : x = 5 := by omega
          go_wp2
          go_roundw
          case rel => exact ⟨y + 1, by omega, by go_num, blk_congr HP.out (upT_next F y), HR.out, HB.out⟩
          case measure => simp [intOf]; omega
    · obtain rfl : y = 5 := by omega
      have HP := hide (blk_congr HP.out (upT_all F))
      go_wp2_with (first | (with_reducible refine wpList_loadVec HP.out 25 rfl rfl _ rfl rfl Tryz.underlying72 Tryz.sizeImg ?_) | (with_reducible refine wpList_storeVec HR.out rfl (.tmp 2) (.tmp 25) rfl rfl rfl Tryz.sizeImg ?_; intro w4 h4 g4 s4))
      refine bodyPost_ret (results_vec rfl _ _ (w.heap.size + 1) 25 _ 72 _ _ rfl h4 Tryz.underlying72 Tryz.sizeImg) rfl ⟨rfl, ?_⟩
      exact HB.out.trans (grown_below g4 (fun k hk => by cases hk; exact Nat.le_succ _) HB.out.size)
end Go.Proofs.YtldbgkmgmhlbiaaGreat
/-
  The program's images: inverted, distance, mirrored.
-/
namespace Go.Proofs.YtldbgkmgmhlbiaaGreat
open Go.RowKit

def invN (v : Int) : Int := if v = -1 then -1 else 1 - v
def upI (F : Nat → Int) (k : Nat) (i : Nat) : Int := if i < k then invN (F i) else F i
theorem upI_zero (F : Nat → Int) : upI F 0 = F := by funext i; simp [upI]
theorem upI_set (F : Nat → Int) (k : Nat) (v : Int) (h : invN (F k) = v) : (fun j => if j = k then v else upI F k j) = upI F (k + 1) := by
  funext j
  simp only [upI]
  by_cases e : j = k
  · subst e; simp [h]
  · rw [if_neg e]
    by_cases hl : j < k
    · rw [if_pos hl, if_pos (by omega)]
    · rw [if_neg hl, if_neg (by omega)]
theorem upI_skip (F : Nat → Int) (k : Nat) (h : F k = -1) : upI F k = upI F (k + 1) := by
  funext j
  simp only [upI]
  by_cases hl : j < k
  · rw [if_pos hl, if_pos (by omega)]
  · by_cases e : j = k
    · subst e; simp [h, invN]
    · rw [if_neg hl, if_neg (by omega)]
theorem upI_all (F : Nat → Int) : ∀ i, i < 25 → upI F (5 * 5) i = invN (F i) := fun i hi => by rw [upI, if_pos (by omega)]

/-- What distance answers: the number, and whether the sizes are the same. -/
def DistRes (b : Bool) (n : Nat) (w : World) (e : Ending) (w' : World) : Prop := e = .returned (.tuple #[.int .i64 (if b then n else 0 : Nat), .bool b]) ∧ Below w.heap.size w w'
theorem dist_no {b : Bool} {n : Nat} {w : World} {w' : World} (hb : b = false) (h : Below w.heap.size w w') : DistRes b n w (.returned (.tuple #[.int .i64 0, .bool false])) w' := by subst hb; exact ⟨rfl, h⟩
set_option maxHeartbeats 1000000 in
theorem distance_any (F G : Nat → Int) (b : Bool) (w : World) (hb : b = true ↔ ∀ i, i < 25 → (F i = -1 ↔ G i = -1)) :
    Calls Tryz.prog 48 #[.agg (vec 25 F), .agg (vec 25 G)] w (DistRes b (cnt (fun i => F i != G i) 25) w) := by
  obtain ⟨p, hp⟩ : ∃ p : Nat → Bool, p = fun i => F i != G i := ⟨_, rfl⟩
  have hpp : Hid (∀ i, p i = (F i != G i)) := hide fun i => by rw [hp]
  rw [← hp]
  clear hp
  have HH := hide hb
  clear hb
  go_enter Tryz.func48, Tryz.ntmps48
  go_wp2_with (first | (with_reducible refine wpList_boxVec 25 F 2 rfl rfl (.tmp 0) rfl rfl ?_; intro w1 h1 b1 s1) | (with_reducible refine wpList_boxVec 25 G 3 rfl rfl (.tmp 1) rfl rfl ?_; intro wa ha ba sa) | (with_reducible refine wpList_loadVec (blk_below h1 ba) 11 rfl rfl _ rfl rfl Tryz.underlying72 Tryz.sizeImg ?_))
  have B1 := hide (b1.trans (ba.mono (by omega)))
  have HP := hide ha
  rw [s1] at HP
  clear h1 b1 ha ba s1 sa
  go_loopw [6, 12] (fun n i w' => ∃ y : Nat, y ≤ 5 ∧ i = .int .i64 y ∧ n = .int .i64 (cnt p (5 * y)) ∧ (∀ i, i < 5 * y → (F i = -1 ↔ G i = -1)) ∧ Blk w' (w.heap.size + 1) 72 25 G ∧ Below w.heap.size w w') (fun _ i _ => 5 - (intOf i).toNat)
  case atStart => exact ⟨0, by omega, rfl, rfl, fun i h => absurd h (Nat.not_lt_zero _), HP.out, B1.out⟩
  case round =>
    clear B1 HP
    obtain ⟨y, hy, rfl, rfl, hall, hp, hb⟩ := hrel
    have HP := hide hp; have HB := hide hb; have HL := hide hall
    clear hp hb hall
    by_cases hlt : y < 5
    · have hyI : (y : Int) < 5 := by omega
      go_wp2_with (first | (with_reducible refine wpList_indexRow y 15 rfl rfl _ _ rfl rfl rfl Tryz.underlying72 Tryz.isAgg70 Tryz.sizeOf70 hlt (by omega) ?_) | (with_reducible refine wpList_allocVec 5 8 rfl rfl rfl Tryz.zeroRow ?_; intro w2 h2 b2 s2) | (with_reducible refine wpList_storeVec h2 rfl (.tmp 8) (.tmp 15) rfl rfl rfl Tryz.sizeRow ?_; intro w3 h3 g3 s3) | (with_reducible refine wpList_loadVec h3 16 rfl rfl _ rfl rfl Tryz.underlying70 Tryz.sizeRow ?_))
      have B3 := hide (row_below HB.out b2 g3)
      have P3 := hide (row_blk HP.out b2 g3)
      clear h2 b2 s2 h3 g3 s3
      go_loopw [6, 17] (fun n i w' => ∃ x : Nat, x ≤ 5 ∧ i = .int .i64 x ∧ n = .int .i64 (cnt p (5 * y + x)) ∧ (∀ i, i < 5 * y + x → (F i = -1 ↔ G i = -1)) ∧ Blk w' (w.heap.size + 1) 72 25 G ∧ Below w.heap.size w w') (fun _ i _ => 5 - (intOf i).toNat)
      case atStart => exact ⟨0, by omega, rfl, rfl, HL.out, P3.out, B3.out⟩
      case round =>
        clear B3 P3 HB HP HL
        obtain ⟨x, hx, rfl, rfl, hall, hp, hb⟩ := hrel
        have HP := hide hp; have HB := hide hb; have HL := hide hall
        clear hp hb hall
        have hle := cnt_le p (5 * y + x)
        by_cases hlx : x < 5
        · have hxI : (x : Int) < 5 := by omega
          have hcl := blk_cell HP.out (5 * y + x) (by omega)
          have HA : Hid (0 + y * 5 + x * 1 = 5 * y + x) := hide (by omega)
          have HE : Hid (y * 5 + x = 5 * y + x) := hide (by omega)
          have HQ := hide (hpp.out (5 * y + x))
          have HN : (F (5 * y + x) = -1 ↔ G (5 * y + x) = -1) → ∀ i, i < 5 * y + (x + 1) → (F i = -1 ↔ G i = -1) := fun h i hi => by
            by_cases e : i = 5 * y + x
            · subst e; exact h
            · exact HL.out i (by omega)
          have HN := hide HN
          have HF0 : Hid (¬ (F (5 * y + x) = -1 ↔ G (5 * y + x) = -1) → b = false) := hide fun h => by
            cases hbb : b with
            | false => rfl
            | true => exact absurd (HH.out.1 hbb (5 * y + x) (by omega)) h
          obtain ⟨s, hs⟩ : ∃ s, s = F (5 * y + x) := ⟨_, rfl⟩
          obtain ⟨t, ht⟩ : ∃ t, t = G (5 * y + x) := ⟨_, rfl⟩
          have HSV := hide hs.symm
          rw [← hs, ← ht] at HQ HN HF0
          rw [← ht] at hcl
          clear hs ht
          by_cases hs1 : s = -1
          · have q1 : (s == -1) = true := by simpa using hs1
            by_cases ht1 : t = -1
            · have q2 : (t == -1) = true := by simpa using ht1
              have HST : Hid (s = t) := hide (by rw [hs1, ht1])
              have q3 : (s != t) = false := by simp [hs1, ht1]
              have HC := hide (cnt_no (p := p) (k := 5 * y + x) (by rw [HQ.out]; exact q3))
              have HN2 := hide (HN.out ⟨fun _ => ht1, fun _ => hs1⟩)
              subst hs1 ht1
              clear q1 q2 q3
              go_wp2_with (first | (with_reducible refine wpList_indexVec x 20 rfl rfl _ _ rfl rfl rfl Tryz.underlying70 Tryz.isAgg3 Tryz.sizeOf3 hlx ?_; rw [HE.out, HSV.out]) | (with_reducible refine wpList_indexAt y 25 rfl rfl _ _ rfl rfl rfl Tryz.underlying72 Tryz.sizeOf70 hlt ?_) | (with_reducible refine wpList_indexAt x 26 rfl rfl _ _ rfl rfl rfl Tryz.underlying70 Tryz.sizeOf3 hlx ?_; rw [HA.out]) | (with_reducible refine wpList_indexAt y 33 rfl rfl _ _ rfl rfl rfl Tryz.underlying72 Tryz.sizeOf70 hlt ?_) | (with_reducible refine wpList_indexAt x 34 rfl rfl _ _ rfl rfl rfl Tryz.underlying70 Tryz.sizeOf3 hlx ?_; rw [HA.out]))
              go_roundw
              case rel => exact ⟨x + 1, by omega, by go_num, by rw [← Nat.add_assoc, HC.out], HN2.out, HP.out, HB.out⟩
              case measure => simp [intOf]; omega
            · have q2 : (t == -1) = false := by simpa using ht1
              have HB0 := hide (HF0.out (fun h => ht1 (h.1 hs1)))
              subst hs1
              clear q1 ht1
              go_wp2_with (first | (with_reducible refine wpList_indexVec x 20 rfl rfl _ _ rfl rfl rfl Tryz.underlying70 Tryz.isAgg3 Tryz.sizeOf3 hlx ?_; rw [HE.out, HSV.out]) | (with_reducible refine wpList_indexAt y 25 rfl rfl _ _ rfl rfl rfl Tryz.underlying72 Tryz.sizeOf70 hlt ?_) | (with_reducible refine wpList_indexAt x 26 rfl rfl _ _ rfl rfl rfl Tryz.underlying70 Tryz.sizeOf3 hlx ?_; rw [HA.out]) | (with_reducible refine wpList_indexAt y 33 rfl rfl _ _ rfl rfl rfl Tryz.underlying72 Tryz.sizeOf70 hlt ?_) | (with_reducible refine wpList_indexAt x 34 rfl rfl _ _ rfl rfl rfl Tryz.underlying70 Tryz.sizeOf3 hlx ?_; rw [HA.out]))
              go_ret2
              exact dist_no HB0.out HB.out
          · have q1 : (s == -1) = false := by simpa using hs1
            by_cases ht1 : t = -1
            · have HB0 := hide (HF0.out (fun h => hs1 (h.2 ht1)))
              subst ht1
              clear hs1
              go_wp2_with (first | (with_reducible refine wpList_indexVec x 20 rfl rfl _ _ rfl rfl rfl Tryz.underlying70 Tryz.isAgg3 Tryz.sizeOf3 hlx ?_; rw [HE.out, HSV.out]) | (with_reducible refine wpList_indexAt y 25 rfl rfl _ _ rfl rfl rfl Tryz.underlying72 Tryz.sizeOf70 hlt ?_) | (with_reducible refine wpList_indexAt x 26 rfl rfl _ _ rfl rfl rfl Tryz.underlying70 Tryz.sizeOf3 hlx ?_; rw [HA.out]) | (with_reducible refine wpList_indexAt y 33 rfl rfl _ _ rfl rfl rfl Tryz.underlying72 Tryz.sizeOf70 hlt ?_) | (with_reducible refine wpList_indexAt x 34 rfl rfl _ _ rfl rfl rfl Tryz.underlying70 Tryz.sizeOf3 hlx ?_; rw [HA.out]))
              go_ret2
              exact dist_no HB0.out HB.out
            · have q2 : (t == -1) = false := by simpa using ht1
              have HN2 := hide (HN.out ⟨fun h => absurd h hs1, fun h => absurd h ht1⟩)
              clear hs1 ht1
              by_cases hst : s = t
              · subst hst
                have HC := hide (cnt_no (p := p) (k := 5 * y + x) (by rw [HQ.out]; simp))
                go_wp2_with (first | (with_reducible refine wpList_indexVec x 20 rfl rfl _ _ rfl rfl rfl Tryz.underlying70 Tryz.isAgg3 Tryz.sizeOf3 hlx ?_; rw [HE.out, HSV.out]) | (with_reducible refine wpList_indexAt y 25 rfl rfl _ _ rfl rfl rfl Tryz.underlying72 Tryz.sizeOf70 hlt ?_) | (with_reducible refine wpList_indexAt x 26 rfl rfl _ _ rfl rfl rfl Tryz.underlying70 Tryz.sizeOf3 hlx ?_; rw [HA.out]) | (with_reducible refine wpList_indexAt y 33 rfl rfl _ _ rfl rfl rfl Tryz.underlying72 Tryz.sizeOf70 hlt ?_) | (with_reducible refine wpList_indexAt x 34 rfl rfl _ _ rfl rfl rfl Tryz.underlying70 Tryz.sizeOf3 hlx ?_; rw [HA.out]))
                go_roundw
                case rel => exact ⟨x + 1, by omega, by go_num, by rw [← Nat.add_assoc, HC.out], HN2.out, HP.out, HB.out⟩
                case measure => simp [intOf]; omega
              · have q3 : (s != t) = true := by simpa using hst
                have HC := hide (cnt_yes (p := p) (k := 5 * y + x) (by rw [HQ.out]; exact q3))
                clear hst
                go_wp2_with (first | (with_reducible refine wpList_indexVec x 20 rfl rfl _ _ rfl rfl rfl Tryz.underlying70 Tryz.isAgg3 Tryz.sizeOf3 hlx ?_; rw [HE.out, HSV.out]) | (with_reducible refine wpList_indexAt y 25 rfl rfl _ _ rfl rfl rfl Tryz.underlying72 Tryz.sizeOf70 hlt ?_) | (with_reducible refine wpList_indexAt x 26 rfl rfl _ _ rfl rfl rfl Tryz.underlying70 Tryz.sizeOf3 hlx ?_; rw [HA.out]) | (with_reducible refine wpList_indexAt y 33 rfl rfl _ _ rfl rfl rfl Tryz.underlying72 Tryz.sizeOf70 hlt ?_) | (with_reducible refine wpList_indexAt x 34 rfl rfl _ _ rfl rfl rfl Tryz.underlying70 Tryz.sizeOf3 hlx ?_; rw [HA.out]))
                go_roundw
                case rel => exact ⟨x + 1, by omega, by go_num, by rw [← Nat.add_assoc, HC.out]; go_num, HN2.out, HP.out, HB.out⟩
                case measure => simp [intOf]; omega
        · obtain rfl : x = 5 := by omega
          go_wp2
          go_roundw
          case rel => exact ⟨y + 1, by omega, by go_num, by rw [show 5 * (y + 1) = 5 * y + 5 by omega], HL.out, HP.out, HB.out⟩
          case measure => simp [intOf]; omega
    · obtain rfl : y = 5 := by omega
      have hbt : b = true := HH.out.2 HL.out
      subst hbt
      go_wp2
      go_ret2
      exact ⟨rfl, HB.out⟩

/-- Numbers put over others, from place o on. -/
def overF (F : Nat → Int) (o : Nat) (r : List Int) (j : Nat) : Int := if o ≤ j ∧ j < o + r.length then r.getD (j - o) 0 else F j
theorem blk_setCells {g n : Nat} {T : TypeId} : ∀ (r : List Int) (o : Nat) (w : World) (F : Nat → Int), Blk w g T n F → Blk (w.setCells g o (ints r)) g T n (overF F o r) ∧ w.grownBy (w.setCells g o (ints r)) (some g) ∧ (w.setCells g o (ints r)).heap.size = w.heap.size
  | [], o, w, F, h => ⟨blk_congr h fun i _ => by simp only [overF, List.length_nil]; rw [if_neg (by omega)], ⟨rfl, rfl, rfl, Nat.le_refl _, fun _ _ _ => rfl⟩, rfl⟩
  | x :: r, o, w, F, h => by
    have h1 := blk_set h o x
    obtain ⟨h2, h3, h4⟩ := blk_setCells r (o + 1) _ _ h1
    refine ⟨blk_congr h2 fun i _ => ?_, ?_, ?_⟩
    · simp only [overF, List.length_cons]
      by_cases e : i = o
      · subst e; rw [if_neg (by omega), if_pos rfl, if_pos (by omega), Nat.sub_self]; rfl
      · by_cases hl : o + 1 ≤ i ∧ i < o + 1 + r.length
        · rw [if_pos hl, if_pos (by omega), show i - o = (i - (o + 1)) + 1 by omega]; rfl
        · rw [if_neg hl, if_neg e, if_neg (by omega)]
    · refine grown_trans (b := w.setCell ⟨g, o, none⟩ (.int .i64 x)) ⟨rfl, rfl, rfl, by simp [World.setCell], fun k _ hr => heap_setCell_other w _ k _ fun e => hr (by rw [e])⟩ h3
    · show ((w.setCell ⟨g, o, none⟩ (.int .i64 x)).setCells g (o + 1) (ints r)).heap.size = w.heap.size
      rw [h4]; simp [World.setCell]
theorem vec_ints (n : Nat) (F : Nat → Int) : vecL n F = ints (rowF n F) := by simp [vecL, ints, rowF]

/-- A row goes into the middle of a variable. -/
theorem wpList_storeMid {P : Program} {ops : Array Oper} {rest : List Oper} {o : Oper} {a : Act} {Q : Exit → Act → World → Prop} {W : World} {g b n s : Nat} {T T' : TypeId} {F G : Nat → Int} (hb : Blk W g T n F)
    (hgd : o.guard = none) (x y : Operand) (ho : o.op = .store T' x y) (hx : a.eval x = .pointer (some ⟨g, b, none⟩)) (hy : a.eval y = .agg (vec s G)) (hi : (P.info? T').map (·.size) = some s) (hn : b + s ≤ n)
    (h : ∀ w', Blk w' g T n (fun j => if b ≤ j ∧ j < b + s then G (j - b) else F j) → W.grownBy w' (some g) → w'.heap.size = W.heap.size → wpList P ops Q rest (a.put o.dst undef) w') : wpList P ops Q (o :: rest) a W := by
  refine wpList_store_mid hgd T' x y ho g b (vec s G) hx hy (fun j hj => ?_) (by rw [hi, vec_size]) (vec_one s G) ?_
  · rw [vec_size] at hj
    exact ⟨by rw [blk_cell hb (b + j) (by omega)]; rfl, blk_frozen hb _⟩
  · have e : (vec s G).toList = ints (rowF s G) := by rw [← vec_ints]; rfl
    obtain ⟨h1, h2, h3⟩ := blk_setCells (rowF s G) b W F hb
    rw [e]
    refine h _ (blk_congr h1 fun i _ => ?_) h2 h3
    simp only [overF, rowF_len]
    by_cases hl : b ≤ i ∧ i < b + s
    · rw [if_pos hl, if_pos hl, List.getD_eq_getElem?_getD, List.getElem?_eq_getElem (by rw [rowF_len]; omega), Option.getD_some, rowF_at]
    · rw [if_neg hl, if_neg hl]

def mirR (n : Nat) (G : Nat → Int) (j : Nat) : Int := if j < n then G (n - 1 - j) else G j
end Go.Proofs.YtldbgkmgmhlbiaaGreat
/-
  The program's images: mirrored; the exported functions.
-/
namespace Go.Proofs.YtldbgkmgmhlbiaaGreat
open Go.RowKit

def mirM (C : Nat) (f : Nat → Nat → Int) (y x : Nat) : Int := f y (C - 1 - x)
def upMir (R C : Nat) (f : Nat → Nat → Int) (y : Nat) (i : Nat) : Int := if i / 5 < y then imgF R C (mirM C f) i else imgF R C f i
theorem upMir_zero (R C : Nat) (f : Nat → Nat → Int) : upMir R C f 0 = imgF R C f := by funext i; simp [upMir]
theorem upMir_all (R C : Nat) (f : Nat → Nat → Int) : ∀ i, i < 25 → upMir R C f 5 i = imgF R C (mirM C f) i := fun i hi => by rw [upMir, if_pos (by omega)]
theorem upMir_step (R C : Nat) (f : Nat → Nat → Int) (y n : Nat) (hC : C ≤ 5) (hn : n = if y < R then C else 0) : ∀ i, i < 25 →
    (if 0 + y * 5 ≤ i ∧ i < 0 + y * 5 + 5 then mirR n (fun j => imgF R C f (y * 5 + j)) (i - (0 + y * 5)) else upMir R C f y i) = upMir R C f (y + 1) i := fun i hi => by
  by_cases hl : 0 + y * 5 ≤ i ∧ i < 0 + y * 5 + 5
  · rw [if_pos hl, upMir, if_pos (by omega)]
    simp only [mirR, imgF]
    have e1 : i / 5 = y := by omega
    have e2 : i - (0 + y * 5) = i % 5 := by omega
    rw [e1, e2]
    by_cases hy : y < R
    · rw [if_pos hy] at hn
      subst hn
      by_cases hx : i % 5 < n
      · rw [if_pos hx, if_pos (by omega), if_pos ⟨hy, hx⟩, mirM, show (y * 5 + (n - 1 - i % 5)) / 5 = y by omega, show (y * 5 + (n - 1 - i % 5)) % 5 = n - 1 - i % 5 by omega]
      · rw [if_neg hx, if_neg (by omega), if_neg (by omega)]
    · rw [if_neg hy] at hn
      subst hn
      rw [if_neg (by omega), if_neg (by omega), if_neg (by omega)]
  · rw [if_neg hl, upMir, upMir]
    by_cases h2 : i / 5 < y
    · rw [if_pos h2, if_pos (by omega)]
    · rw [if_neg h2, if_neg (by omega)]

end Go.Proofs.YtldbgkmgmhlbiaaGreat
/-
  The program's exported functions on images.
-/
namespace Go.Proofs.YtldbgkmgmhlbiaaGreat
open Go.RowKit

def trM (f : Nat → Nat → Int) (y x : Nat) : Int := f x y
def invM (f : Nat → Nat → Int) (y x : Nat) : Int := 1 - f y x
theorem img_tr {R C : Nat} {f : Nat → Nat → Int} (h : Img R C f) : Img C R (trM f) := ⟨h.c1, h.c2, h.r1, h.r2, fun y x hy hx => h.cell x y hx hy⟩
theorem img_mir {R C : Nat} {f : Nat → Nat → Int} (h : Img R C f) : Img R C (mirM C f) := ⟨h.r1, h.r2, h.c1, h.c2, fun y x hy hx => h.cell y (C - 1 - x) hy (by omega)⟩
theorem img_inv {R C : Nat} {f : Nat → Nat → Int} (h : Img R C f) : Img R C (invM f) := ⟨h.r1, h.r2, h.c1, h.c2, fun y x hy hx => by rcases h.cell y x hy hx with e | e <;> simp [invM, e]⟩
theorem transposed_img (R C : Nat) (f : Nat → Nat → Int) (w : World) (_hI : Img R C f) :
    Calls Tryz.prog 75 #[.agg (vec 25 (imgF R C f))] w fun e w' => e = .returned (.agg (vec 25 (imgF C R (trM f)))) ∧ Below w.heap.size w w' := by
  rw [← vec_congr (n := 25) (F := fun i => imgF R C f (5 * (i % 5) + i / 5)) (G := imgF C R (trM f)) fun i hi => ?_]
  · exact transposed_any _ _
  · simp only [imgF, trM, show (5 * (i % 5) + i / 5) / 5 = i % 5 by omega, show (5 * (i % 5) + i / 5) % 5 = i / 5 by omega]
    by_cases h : i % 5 < R ∧ i / 5 < C
    · rw [if_pos h, if_pos ⟨h.2, h.1⟩]
    · rw [if_neg h, if_neg fun e => h ⟨e.2, e.1⟩]
set_option maxHeartbeats 400000 in
theorem implTransposeOf_no (v : Value) (m : List (List Int)) (w : World) (hin : InMat w v m) (h : okB m = false) :
    Calls Tryz.prog 43 #[v] w (MatRes [] w) := by
  have HI := hide hin; have H := hide h
  clear hin h
  go_enter Tryz.func43, Tryz.ntmps43
  go_wp2_with fail
  refine (imageOf_no v m _ HI.out H.out).mono ?_
  rintro e w1 ⟨rfl, b1⟩
  have B1 := hide b1
  clear b1
  go_wp2_with (first | (with_reducible refine wpList_allocVec 25 3 rfl rfl rfl Tryz.zeroImg ?_; intro wa ha ba sa) | (with_reducible refine wpList_storeVec ha rfl (.tmp 3) (.tmp 8) rfl rfl rfl Tryz.sizeImg ?_; intro wb hb gb sb) | (with_reducible refine wpList_loadVec hb 12 rfl rfl _ rfl rfl Tryz.underlying72 Tryz.sizeImg ?_))
  go_ret
  exact matRes_nil (B1.out.trans ((ba.mono B1.out.size).trans (grown_below gb (fun k hk => by cases hk; exact B1.out.size) (by have := B1.out.size; omega))))
set_option maxHeartbeats 400000 in
theorem implTransposeOf_yes (v : Value) (R C : Nat) (f : Nat → Nat → Int) (w : World) (hin : InMat w v (mkM R C f)) (hI : Img R C f) :
    Calls Tryz.prog 43 #[v] w (MatRes (mkM C R (trM f)) w) := by
  have HI := hide hin; have H := hide hI
  clear hin hI
  go_enter Tryz.func43, Tryz.ntmps43
  go_wp2_with fail
  refine (imageOf_yes v R C f _ HI.out H.out).mono ?_
  rintro e w1 ⟨rfl, b1⟩
  have B1 := hide b1
  clear b1
  go_wp2_with (first | (with_reducible refine wpList_allocVec 25 3 rfl rfl rfl Tryz.zeroImg ?_; intro wa ha ba sa) | (with_reducible refine wpList_storeVec ha rfl (.tmp 3) (.tmp 8) rfl rfl rfl Tryz.sizeImg ?_; intro wb hb gb sb) | (with_reducible refine wpList_loadVec hb 12 rfl rfl _ rfl rfl Tryz.underlying72 Tryz.sizeImg ?_))
  have B2 := hide (B1.out.trans ((ba.mono B1.out.size).trans (grown_below gb (fun k hk => by cases hk; exact B1.out.size) (by have := B1.out.size; omega))))
  clear ha ba sa hb gb sb
  refine (transposed_img R C f _ H.out).mono ?_
  rintro e w3 ⟨rfl, b3⟩
  have B3 := hide (B2.out.trans (b3.mono B2.out.size))
  clear b3
  go_wp2_with fail
  refine (lists_any C R (trM f) _ (img_tr H.out)).mono ?_
  rintro e w4 ⟨v4, rfl, o4, b4⟩
  have O4 := hide (ownMat_mono o4 B3.out.size (Nat.le_refl _)); have B4 := hide (B3.out.trans (b4.mono B3.out.size))
  clear o4 b4
  go_wp2
  go_ret
  exact ⟨_, rfl, O4.out, B4.out⟩

/-- The cell of a valid image, or -1. -/
def atM (R C : Nat) (f : Nat → Nat → Int) (y x : Int) : Int := if 0 ≤ y ∧ y < R ∧ 0 ≤ x ∧ x < C then f y.toNat x.toNat else -1
theorem img_zero {R C : Nat} (hR : 1 ≤ R ∧ R ≤ 5) (hC : 1 ≤ C ∧ C ≤ 5) : Img R C zeroM := ⟨hR.1, hR.2, hC.1, hC.2, fun _ _ _ _ => .inl rfl⟩
theorem whiteImage_img (R C : Nat) (w : World) :
    Calls Tryz.prog 78 #[.int .i64 R, .int .i64 C] w fun e w' => e = .returned (.agg (vec 25 (imgF R C zeroM))) ∧ Below w.heap.size w w' := by
  rw [← vec_congr (n := 25) (F := whiteF R C) (G := imgF R C zeroM) fun i hi => ?_]
  · exact whiteImage_any _ _ _
  · simp only [whiteF, imgF, zeroM]
    by_cases h : i / 5 < R ∧ i % 5 < C
    · rw [if_pos h, if_neg (by omega)]
    · rw [if_neg h, if_pos (by omega)]
end Go.Proofs.YtldbgkmgmhlbiaaGreat
/-
  PutCell and DistanceOf of the program.
-/
namespace Go.Proofs.YtldbgkmgmhlbiaaGreat
open Go.RowKit

/-- The whole variable is read, behind a guard that says yes. -/
theorem wpList_loadVecG {P : Program} {ops : Array Oper} {rest : List Oper} {o : Oper} {a : Act} {Q : Exit → Act → World → Prop} {W : World} {g n m : Nat} {T T' e : TypeId} {F : Nat → Int} (hb : Blk W g T n F) (d : Tmp) (_hd : o.dst = some d)
    (hw : Region.wanted o (yielded ops a.tmps) = true) (x : Operand) (ho : o.op = .load T' x) (hx : a.eval x = .pointer (some ⟨g, 0, none⟩)) (hu : P.underlying T' = some (.array m e)) (hi : (P.info? T').map (·.size) = some n)
    (h : wpList P ops Q rest (a.put o.dst (.agg (vec n F))) W) : wpList P ops Q (o :: rest) a W :=
  BigFrame.wpList_want hw fun K hK => wp_load_row T' x ho g hx T (vec n F) (0, 0) _ hb hu rfl (by rw [hi, vec_size]) (hK _ _ h)

/-- The image with another cell. -/
def putM (f : Nat → Nat → Int) (a b : Nat) (c : Int) (y x : Nat) : Int := if y = a ∧ x = b then c else f y x
theorem img_put {R C : Nat} {f : Nat → Nat → Int} (h : Img R C f) (a b : Nat) {c : Int} (hc : c = 0 ∨ c = 1) : Img R C (putM f a b c) := ⟨h.r1, h.r2, h.c1, h.c2, fun y x hy hx => by
  unfold putM; split
  · exact hc
  · exact h.cell y x hy hx⟩
theorem imgF_put (R C : Nat) (f : Nat → Nat → Int) (a b : Nat) (c : Int) (ha : a < R) (hb : b < C) (hC : C ≤ 5) : ∀ i, i < 25 → (if i = 5 * a + b then c else imgF R C f i) = imgF R C (putM f a b c) i := fun i hi => by
  simp only [imgF, putM]
  by_cases e : i = 5 * a + b
  · subst e
    rw [if_pos rfl, if_pos (by omega), if_pos (by omega)]
  · rw [if_neg e]
    by_cases h : i / 5 < R ∧ i % 5 < C
    · rw [if_pos h, if_pos h, if_neg (by omega)]
    · rw [if_neg h, if_neg h]

end Go.Proofs.YtldbgkmgmhlbiaaGreat
/-
  DistanceOf of the program.
-/
namespace Go.Proofs.YtldbgkmgmhlbiaaGreat
open Go.RowKit

theorem imageOf_any (v : Value) (m : List (List Int)) (w : World) (hin : InMat w v m) :
    Calls Tryz.prog 47 #[v] w fun e w' => (∃ F, e = .returned (.tuple #[.agg (vec 25 F), .bool (okB m)])) ∧ Below w.heap.size w w' := by
  cases h : okB m with
  | false =>
    refine (imageOf_no v m w hin h).mono ?_
    rintro e w' ⟨rfl, hb⟩
    exact ⟨⟨_, rfl⟩, hb⟩
  | true =>
    obtain ⟨R, C, f, rfl, hI⟩ := ok_img h
    refine (imageOf_yes v R C f w hin hI).mono ?_
    rintro e w' ⟨rfl, hb⟩
    exact ⟨⟨_, rfl⟩, hb⟩
theorem imgF_none {R C : Nat} {f : Nat → Nat → Int} (h : Img R C f) (i : Nat) : imgF R C f i = -1 ↔ ¬ (i / 5 < R ∧ i % 5 < C) := by
  unfold imgF
  by_cases hi : i / 5 < R ∧ i % 5 < C
  · rw [if_pos hi]
    constructor
    · intro e; rcases h.cell _ _ hi.1 hi.2 with e' | e' <;> rw [e'] at e <;> cases e
    · intro e; exact absurd hi e
  · rw [if_neg hi]; exact ⟨fun _ => hi, fun _ => rfl⟩
theorem same_sizes {R C R' C' : Nat} {f g : Nat → Nat → Int} (h : Img R C f) (h' : Img R' C' g) : decide (R = R' ∧ C = C') = true ↔ ∀ i, i < 25 → (imgF R C f i = -1 ↔ imgF R' C' g i = -1) := by
  have a1 := h.r1; have a2 := h.r2; have a3 := h.c1; have a4 := h.c2
  have b1 := h'.r1; have b2 := h'.r2; have b3 := h'.c1; have b4 := h'.c2
  rw [decide_eq_true_eq]
  constructor
  · rintro ⟨rfl, rfl⟩ i hi
    rw [imgF_none h, imgF_none h']
  · intro hall
    have hq : ∀ y x, y < 5 → x < 5 → ((y < R ∧ x < C) ↔ (y < R' ∧ x < C')) := fun y x hy hx => by
      have := hall (5 * y + x) (by omega)
      rw [imgF_none h, imgF_none h', show (5 * y + x) / 5 = y by omega, show (5 * y + x) % 5 = x by omega] at this
      exact ⟨fun h1 => Decidable.byContradiction fun n => (this.2 n) h1, fun h1 => Decidable.byContradiction fun n => (this.1 n) h1⟩
    constructor
    · by_cases l : R < R'
      · have := (hq R 0 (by omega) (by omega)).2 ⟨l, by omega⟩; omega
      · by_cases l2 : R' < R
        · have := (hq R' 0 (by omega) (by omega)).1 ⟨l2, by omega⟩; omega
        · omega
    · by_cases l : C < C'
      · have := (hq 0 C (by omega) (by omega)).2 ⟨by omega, l⟩; omega
      · by_cases l2 : C' < C
        · have := (hq 0 C' (by omega) (by omega)).1 ⟨by omega, l2⟩; omega
        · omega
theorem distance_img (R C R' C' : Nat) (f g : Nat → Nat → Int) (w : World) (h : Img R C f) (h' : Img R' C' g) (b : Bool) (hb : decide (R = R' ∧ C = C') = b) :
    Calls Tryz.prog 48 #[.agg (vec 25 (imgF R C f)), .agg (vec 25 (imgF R' C' g))] w (DistRes b (cnt (fun i => imgF R C f i != imgF R' C' g i) 25) w) := by
  subst hb; exact distance_any _ _ _ _ (same_sizes h h')

set_option maxHeartbeats 1000000 in
theorem implDistanceOf_no (v u : Value) (m k : List (List Int)) (w : World) (hin : InMat w v m) (hin2 : InMat w u k) (h : (okB m && okB k) = false) :
    Calls Tryz.prog 12 #[v, u] w fun e w' => e = .returned (.int .i64 (-1)) ∧ Below w.heap.size w w' := by
  have HI := hide hin; have HI2 := hide hin2
  clear hin hin2
  obtain ⟨p, hp⟩ : ∃ p, p = okB m := ⟨_, rfl⟩
  obtain ⟨q, hq⟩ : ∃ q, q = okB k := ⟨_, rfl⟩
  rw [← hp, ← hq] at h
  have HP := hide hp.symm; have HQ := hide hq.symm
  clear hp hq
  go_enter Tryz.func12, Tryz.ntmps12
  go_wp2_with fail
  refine (imageOf_any v m _ HI.out).mono ?_
  rw [HP.out]
  rintro e w1 ⟨⟨F, rfl⟩, b1⟩
  have B1 := hide b1
  clear b1
  go_wp2_with (first | (with_reducible refine wpList_allocVec 25 5 rfl rfl rfl Tryz.zeroImg ?_; intro waa haa baa saa) | (with_reducible refine wpList_storeVec haa rfl (.tmp 5) (.tmp 14) rfl rfl rfl Tryz.sizeImg ?_; intro wba hba gba sba) | (with_reducible refine wpList_loadVec hba 99 rfl rfl _ rfl rfl Tryz.underlying72 Tryz.sizeImg ?_))
  have B2 := hide (B1.out.trans ((baa.mono B1.out.size).trans (grown_below gba (fun k hk => by cases hk; exact B1.out.size) (by have := B1.out.size; omega))))
  clear haa baa saa hba gba sba
  refine (imageOf_any u k _ (inMat_below HI2.out B2.out)).mono ?_
  rw [HQ.out]
  rintro e w3 ⟨⟨G, rfl⟩, b3⟩
  have B3 := hide (B2.out.trans (b3.mono B2.out.size))
  clear b3
  cases p with
  | false =>
    go_wp2_with (first | (with_reducible refine wpList_allocVec 25 7 rfl rfl rfl Tryz.zeroImg ?_; intro wab hab bab sab) | (with_reducible refine wpList_storeVec hab rfl (.tmp 7) (.tmp 19) rfl rfl rfl Tryz.sizeImg ?_; intro wbb hbb gbb sbb) | (with_reducible refine wpList_loadVec hbb 29 rfl rfl _ rfl rfl Tryz.underlying72 Tryz.sizeImg ?_))
    go_ret
    exact ⟨rfl, B3.out.trans ((bab.mono B3.out.size).trans (grown_below gbb (fun k hk => by cases hk; exact B3.out.size) (by have := B3.out.size; omega)))⟩
  | true =>
    obtain rfl : q = false := by simpa using h
    go_wp2_with (first | (with_reducible refine wpList_allocVec 25 7 rfl rfl rfl Tryz.zeroImg ?_; intro wab hab bab sab) | (with_reducible refine wpList_storeVec hab rfl (.tmp 7) (.tmp 19) rfl rfl rfl Tryz.sizeImg ?_; intro wbb hbb gbb sbb) | (with_reducible refine wpList_loadVec hbb 29 rfl rfl _ rfl rfl Tryz.underlying72 Tryz.sizeImg ?_))
    go_ret
    exact ⟨rfl, B3.out.trans ((bab.mono B3.out.size).trans (grown_below gbb (fun k hk => by cases hk; exact B3.out.size) (by have := B3.out.size; omega)))⟩

set_option maxHeartbeats 1000000 in
theorem implDistanceOf_yes (v u : Value) (R C R' C' : Nat) (f g : Nat → Nat → Int) (w : World) (hin : InMat w v (mkM R C f)) (hin2 : InMat w u (mkM R' C' g)) (h : Img R C f) (h' : Img R' C' g) :
    Calls Tryz.prog 12 #[v, u] w fun e w' => e = .returned (.int .i64 (if R = R' ∧ C = C' then (cnt (fun i => imgF R C f i != imgF R' C' g i) 25 : Nat) else -1)) ∧ Below w.heap.size w w' := by
  have HI := hide hin; have HI2 := hide hin2; have H := hide h; have H' := hide h'
  clear hin hin2 h h'
  obtain ⟨b, hb⟩ : ∃ b : Bool, decide (R = R' ∧ C = C') = b := ⟨_, rfl⟩
  have HB := hide hb
  have HE : Hid ((if R = R' ∧ C = C' then ((cnt (fun i => imgF R C f i != imgF R' C' g i) 25 : Nat) : Int) else -1) = if b then ((cnt (fun i => imgF R C f i != imgF R' C' g i) 25 : Nat) : Int) else -1) := hide (by
    subst hb
    by_cases e : R = R' ∧ C = C'
    · rw [if_pos e, decide_eq_true e]; rfl
    · rw [if_neg e, decide_eq_false e]; rfl)
  rw [HE.out]
  clear hb HE
  obtain ⟨n, hn⟩ : ∃ n, n = cnt (fun i => imgF R C f i != imgF R' C' g i) 25 := ⟨_, rfl⟩
  have HN := hide hn.symm
  rw [← hn]
  clear hn
  go_enter Tryz.func12, Tryz.ntmps12
  go_wp2_with fail
  refine (imageOf_yes v R C f _ HI.out H.out).mono ?_
  rintro e w1 ⟨rfl, b1⟩
  have B1 := hide b1
  clear b1
  go_wp2_with (first | (with_reducible refine wpList_allocVec 25 5 rfl rfl rfl Tryz.zeroImg ?_; intro waa haa baa saa) | (with_reducible refine wpList_storeVec haa rfl (.tmp 5) (.tmp 14) rfl rfl rfl Tryz.sizeImg ?_; intro wba hba gba sba) | (with_reducible refine wpList_loadVec hba 99 rfl rfl _ rfl rfl Tryz.underlying72 Tryz.sizeImg ?_))
  have B2 := hide (B1.out.trans ((baa.mono B1.out.size).trans (grown_below gba (fun k hk => by cases hk; exact B1.out.size) (by have := B1.out.size; omega))))
  have HA := hide hba
  clear haa baa saa hba gba sba
  refine (imageOf_yes u R' C' g _ (inMat_below HI2.out B2.out) H'.out).mono ?_
  rintro e w3 ⟨rfl, b3⟩
  have B3 := hide (B2.out.trans (b3.mono B2.out.size))
  have HA := hide (blk_below HA.out b3)
  clear b3
  go_wp2_with (first | (with_reducible refine wpList_allocVec 25 7 rfl rfl rfl Tryz.zeroImg ?_; intro wab hab bab sab) | (with_reducible refine wpList_storeVec hab rfl (.tmp 7) (.tmp 19) rfl rfl rfl Tryz.sizeImg ?_; intro wbb hbb gbb sbb) | (with_reducible refine wpList_loadVec hbb 29 rfl rfl _ rfl rfl Tryz.underlying72 Tryz.sizeImg ?_) | (with_reducible refine wpList_loadVec (blk_grown (blk_below HA.out bab) gbb (by have := blk_lt HA.out; simp; omega)) 28 rfl rfl _ rfl rfl Tryz.underlying72 Tryz.sizeImg ?_))
  have B4 := hide (B3.out.trans ((bab.mono B3.out.size).trans (grown_below gbb (fun k hk => by cases hk; exact B3.out.size) (by have := B3.out.size; omega))))
  clear hab bab sab hbb gbb sbb HA
  refine (distance_img R C R' C' f g _ H.out H'.out b HB.out).mono ?_
  rw [HN.out]
  rintro e w5 ⟨rfl, b5⟩
  have B5 := hide (B4.out.trans (b5.mono B4.out.size))
  clear b5
  cases b with
  | false =>
    go_wp2
    go_ret
    exact ⟨rfl, B5.out⟩
  | true =>
    go_wp2
    go_ret
    exact ⟨rfl, B5.out⟩
end Go.Proofs.YtldbgkmgmhlbiaaGreat
