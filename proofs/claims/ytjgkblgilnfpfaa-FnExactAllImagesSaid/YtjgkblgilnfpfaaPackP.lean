/-
  Texts of this claim, one behind the other: LawsCI, LawsBL, AllP, IntSSS, LawsAI, Concat, CountF.
-/
import Derived.Test.YtjgkblgilnfpfaaPackE
import Derived.Test.YtjgkblgilnfpfaaPackO
import Derived.Test.YtjgkblgilnfpfaaPackC
import Derived.Test.YtjgkblgilnfpfaaPackI
import Derived.Maps.OwnIn
import Derived.Test.YtjgkblgilnfpfaaPackB
import Derived.Test.YtjgkblgilnfpfaaPackD
import Derived.Shelf.Spec.SlicesGrow
/-
  The exact law on CountImages, out of the contracts.
-/
namespace Go.Proofs.Ytjgkblgilnfpfaa
open Go.RowKit
set_option linter.unusedVariables false

set_option maxRecDepth 100000 in
set_option maxHeartbeats 1000000 in
theorem lawCountImages_gen (a0 : Option Addr) (n0 c0 : Nat) (r0 : List Int) (a1 : Option Addr) (n1 c1 : Nat) (r1 : List Int) (w : World) (hin0 : InRow w (.slice a0 n0 c0) r0) (hin1 : InRow w (.slice a1 n1 c1) r1) (val : Int)
    (hs : r0.length ≤ 1048576 → r1.length ≤ 1048576 → ∀ (v0 : Value) (v1 : Value) (w : World), RowC w v0 r0 → RowC w v1 r1 → Calls Try.prog 23 #[v0, v1] w fun e w' => e = .returned (.int .i64 val) ∧ Below w.heap.size w w')
    (hi : r0.length ≤ 1048576 → r1.length ≤ 1048576 → ∀ (v0 : Value) (v1 : Value) (w : World), RowC w v0 r0 → RowC w v1 r1 → Calls Try.prog 24 #[v0, v1] w fun e w' => e = .returned (.int .i64 val) ∧ Below w.heap.size w w') :
    Calls Try.prog 5 #[.slice a0 n0 c0, .slice a1 n1 c1] w fun e w' => e = .returned (.bool true) ∧ Below w.heap.size w w' := by
  have HI0 := hide hin0
  obtain ⟨a', c', he, hm0, -⟩ := hin0
  cases he
  unfold maxLen at hm0
  have HI1 := hide hin1
  obtain ⟨a', c', he, hm1, -⟩ := hin1
  cases he
  unfold maxLen at hm1
  by_cases hr0 : 1048576 < r0.length
  · clear hs hi
    obtain ⟨R0, hR0⟩ : ∃ R0, R0 = r0.length := ⟨_, rfl⟩
    obtain ⟨R1, hR1⟩ : ∃ R1, R1 = r1.length := ⟨_, rfl⟩
    rw [← hR0] at HI0 hm0 hr0 ⊢
    rw [← hR1] at HI1 hm1 ⊢
    clear hR0 hR1
    go_enter Try.func5, Try.ntmps5
    go_wp2
    go_ret
    exact ⟨rfl, Below.refl _ _⟩
  · by_cases hr1 : 1048576 < r1.length
    · clear hs hi
      obtain ⟨R0, hR0⟩ : ∃ R0, R0 = r0.length := ⟨_, rfl⟩
      obtain ⟨R1, hR1⟩ : ∃ R1, R1 = r1.length := ⟨_, rfl⟩
      rw [← hR0] at HI0 hm0 hr0 ⊢
      rw [← hR1] at HI1 hm1 hr1 ⊢
      clear hR0 hR1
      go_enter Try.func5, Try.ntmps5
      go_wp2
      go_ret
      exact ⟨rfl, Below.refl _ _⟩
    · have HS := hide (hs (by omega) (by omega)); have HM := hide (hi (by omega) (by omega))
      have HR0 : Hid (r0.length ≤ 2000000) := hide (by omega)
      have HR1 : Hid (r1.length ≤ 2000000) := hide (by omega)
      clear hs hi
      go_enter Try.func5, Try.ntmps5
      go_wp2_with fail
      refine (toIntS_any _ r0 _ HR0.out HI0.out).mono ?_
      rintro e w1 ⟨ps0, rfl, ho, hb⟩
      have Ps0_1 := hide (rowC_own ho); have HB1 := hide (hb); clear ho hb
      go_wp2_with fail
      refine (toIntS_any _ r1 _ HR1.out (inRow_below HI1.out HB1.out)).mono ?_
      rintro e w2 ⟨ps1, rfl, ho, hb⟩
      have Ps0_2 := hide (rowC_below Ps0_1.out hb); have Ps1_2 := hide (rowC_own ho); have HB2 := hide (HB1.out.trans (hb.mono HB1.out.size)); clear ho hb
      go_wp2_with fail
      refine (HS.out ps0 ps1 _ Ps0_2.out Ps1_2.out).mono ?_
      rintro e w3 ⟨rfl, hb⟩
      have HB3 := hide (HB2.out.trans (hb.mono HB2.out.size)); clear hb
      go_wp2_with fail
      refine (toIntS_any _ r0 _ HR0.out (inRow_below HI0.out HB3.out)).mono ?_
      rintro e w4 ⟨px0, rfl, ho, hb⟩
      have Px0_4 := hide (rowC_own ho); have HB4 := hide (HB3.out.trans (hb.mono HB3.out.size)); clear ho hb
      go_wp2_with fail
      refine (toIntS_any _ r1 _ HR1.out (inRow_below HI1.out HB4.out)).mono ?_
      rintro e w5 ⟨px1, rfl, ho, hb⟩
      have Px0_5 := hide (rowC_below Px0_4.out hb); have Px1_5 := hide (rowC_own ho); have HB5 := hide (HB4.out.trans (hb.mono HB4.out.size)); clear ho hb
      go_wp2_with fail
      refine (HM.out px0 px1 _ Px0_5.out Px1_5.out).mono ?_
      rintro e w6 ⟨rfl, hb⟩
      have Px0_6 := hide (rowC_below Px0_5.out hb); have Px1_6 := hide (rowC_below Px1_5.out hb); have HB6 := hide (HB5.out.trans (hb.mono HB5.out.size)); clear hb
      go_wp2_with fail
      refine (toIntS_any _ r0 _ HR0.out (inRow_below HI0.out HB6.out)).mono ?_
      rintro e w7 ⟨py0, rfl, ho, hb⟩
      have Px0_7 := hide (rowC_below Px0_6.out hb); have Px1_7 := hide (rowC_below Px1_6.out hb); have Py0_7 := hide (rowC_own ho); have HB7 := hide (HB6.out.trans (hb.mono HB6.out.size)); clear ho hb
      go_wp2_with fail
      refine (eqIntS_same px0 py0 r0 _ Px0_7.out.1 Py0_7.out.1).mono ?_
      rintro e w8 ⟨rfl, hb⟩
      have Px1_8 := hide (rowC_below Px1_7.out hb); have HB8 := hide (HB7.out.trans (hb.mono HB7.out.size)); clear hb
      go_wp2_with fail
      refine (toIntS_any _ r1 _ HR1.out (inRow_below HI1.out HB8.out)).mono ?_
      rintro e w9 ⟨py1, rfl, ho, hb⟩
      have Px1_9 := hide (rowC_below Px1_8.out hb); have Py1_9 := hide (rowC_own ho); have HB9 := hide (HB8.out.trans (hb.mono HB8.out.size)); clear ho hb
      go_wp2_with fail
      refine (eqIntS_same px1 py1 r1 _ Px1_9.out.1 Py1_9.out.1).mono ?_
      rintro e w10 ⟨rfl, hb⟩
      have HB10 := hide (HB9.out.trans (hb.mono HB9.out.size)); clear hb
      go_wp2
      go_ret
      exact ⟨rfl, HB10.out⟩
theorem lawCountImages_walk (a : Option Addr) (n c : Nat) (r : List Int) (b : Option Addr) (k d : Nat) (s : List Int) (w : World) (hin : InRow w (.slice a n c) r) (hin2 : InRow w (.slice b k d) s) :
    Calls Try.prog 5 #[.slice a n c, .slice b k d] w fun e w' => e = .returned (.bool true) ∧ Below w.heap.size w w' :=
  lawCountImages_gen a n c r b k d s w hin hin2 (countIm r s) (fun _ _ p q w hp hq => specCount_im p q r s w hp hq) (fun _ _ p q w hp hq => implCount_im p q r s w hp hq)
end Go.Proofs.Ytjgkblgilnfpfaa
/-
  The exact laws on BuildImage and LeastImage, walked.
-/
namespace Go.Proofs.Ytjgkblgilnfpfaa
open Go.RowKit
set_option linter.unusedVariables false

end Go.Proofs.Ytjgkblgilnfpfaa
/-
  slices.AppendSeq and Collect over all images, and AllImages of the program: each image in blocks of its own.
-/
namespace Go.Proofs.Ytjgkblgilnfpfaa
open Go.RowKit Go.Shelf
attribute [local go_sem] Oper.semAt_some

/-- A list of images that the call owns, each in a range of blocks of its own, one range behind the other, the list's block in none of them. -/
def OwnIms (W : World) (lo : Nat) (v : Value) (ms : List (List (List Int))) : Prop :=
  ∃ (us : List Value) (a b : Nat → Nat), W.ownsRow lo 23 1 v ms.length us ∧
    (∀ i, (h : i < ms.length) → OwnMat W (a i) (b i) (us.getD i undef) ms[i] ∧ lo ≤ a i ∧ ∀ k, v.ownBlock = some k → k < a i ∨ b i ≤ k) ∧ ∀ i j, i < j → j < ms.length → b i ≤ a j
theorem sup_of (G : Nat → Prop) : ∀ n, (∀ k, G k → k < n) → ∃ b, (∀ k, G k → k < b) ∧ (b = 0 ∨ G (b - 1)) ∧ b ≤ n
  | 0, h => ⟨0, h, .inl rfl, Nat.le_refl _⟩
  | n + 1, h => by
    by_cases hg : G n
    · exact ⟨n + 1, h, .inr hg, Nat.le_refl _⟩
    · obtain ⟨b, h1, h2, h3⟩ := sup_of G n fun k hk => by
        have := h k hk
        rcases Nat.lt_or_ge k n with h4 | h4
        · exact h4
        · exact absurd (show G n by rw [show n = k by omega]; exact hk) hg
      exact ⟨b, h1, h2, by omega⟩
/-- What is known while the images are gathered: the box q, the slice in it, the images. -/
def Gath (q : Nat) (pre : List (List (List Int))) (A : Nat → Prop) (W : World) : Prop :=
  ∃ (v : Value) (us : List Value) (a b : Nat → Nat) (Gs : Nat → Nat → Prop), Boxed W q 32 v ∧ W.ownsRow q 23 1 v pre.length us ∧ (∀ k, v.ownBlock = some k → A k) ∧ A q ∧ (∀ k, A k → k < W.heap.size) ∧
    (∀ i, (h : i < pre.length) → ValM (us.getD i undef) pre[i] (a i) (Gs i) W ∧ (∀ k, Gs i k → A k ∧ a i ≤ k ∧ k < b i) ∧ (b i = 0 ∨ A (b i - 1)) ∧ q < a i ∧ ∀ k, v.ownBlock = some k → k < a i ∨ b i ≤ k) ∧
    ∀ i j, i < j → j < pre.length → b i ≤ a j
theorem gath_abid (q B : Nat) : AbidF B (Gath q) := by
  rintro pre A W W' ⟨v, us, a, b, Gs, h1, h2, h3, h4, h5, h6, h7⟩ - - - hs hk
  refine ⟨v, us, a, b, Gs, (hk q h1.lt (.inr h4)).trans h1, own_agr h2 fun k he => hk k (h5 k (h3 k he)) (.inr (h3 k he)), h3, h4, fun k ha => Nat.lt_of_lt_of_le (h5 k ha) hs, fun i hi => ?_, h7⟩
  obtain ⟨g1, g2, g3⟩ := h6 i hi
  exact ⟨valM_agr g1 fun k hg => hk k (h5 k (g2 k hg).1) (.inr (g2 k hg).1), g2, g3⟩
theorem gath_own {q : Nat} {pre : List (List (List Int))} {A : Nat → Prop} {W : World} (h : Gath q pre A W) : ∃ v, Boxed W q 32 v ∧ OwnIms W q v pre := by
  obtain ⟨v, us, a, b, Gs, h1, h2, h3, h4, h5, h6, h7⟩ := h
  refine ⟨v, h1, us, a, b, h2, fun i hi => ?_, h7⟩
  obtain ⟨g1, g2, g3, g4, g5⟩ := h6 i hi
  exact ⟨valM_own g1 fun k hk => (g2 k hk).2.2, by omega, g5⟩
/-- One more image. -/
theorem gath_push {q lo : Nat} {pre : List (List (List Int))} {m : List (List Int)} {A G : Nat → Prop} {W w1 W' : World} {v v' x : Value} {us : List Value} {a b : Nat → Nat} {Gs : Nat → Nat → Prop} {o : Obj} {vb : Value}
    (h1 : Boxed W q 32 v) (h2 : W.ownsRow q 23 1 v pre.length us) (h3 : ∀ k, v.ownBlock = some k → A k) (h4 : A q) (h5 : ∀ k, A k → k < W.heap.size)
    (h6 : ∀ i, (h : i < pre.length) → ValM (us.getD i undef) pre[i] (a i) (Gs i) W ∧ (∀ k, Gs i k → A k ∧ a i ≤ k ∧ k < b i) ∧ (b i = 0 ∨ A (b i - 1)) ∧ q < a i ∧ ∀ k, v.ownBlock = some k → k < a i ∨ b i ≤ k)
    (h7 : ∀ i j, i < j → j < pre.length → b i ≤ a j)
    (hval : ValM x m lo G W) (hA : ∀ k, A k → k < lo) (hG : ∀ k, G k → lo ≤ k ∧ k < W.heap.size)
    (ho : w1.ownsRow q 23 1 v' (pre.length + 1) (us ++ [x])) (hg : (W.alloc o).grownBy w1 v.ownBlock) (hl : v'.ownBlock = v.ownBlock ∨ v'.ownBlock = some (W.alloc o).heap.size) (hW' : W' = w1.setCell ⟨q, 0, none⟩ v') (hvb : vb = v') :
    ∃ A2, Gath q (pre ++ [m]) A2 W' ∧ ItGive A A2 G W W' := by
  subst hvb
  have hul : us.length = pre.length := by have := h2.1; omega
  have hb1 : Boxed w1 q 32 v := (h1.alloc o).kept hg ((h1.alloc o).not_row (by decide) (h2.alloc o))
  have hnr : some q ≠ vb.ownBlock := hb1.not_row (by decide) ho
  have hsz : W.heap.size + 1 ≤ w1.heap.size := by have := hg.size; simpa using this
  have hWs : W'.heap.size = w1.heap.size := by rw [hW']; simp [World.setCell]
  have hkeep : ∀ k, k < W.heap.size → k ≠ q → v.ownBlock ≠ some k → W'.heap[k]? = W.heap[k]? := fun k hk hq hv => by
    rw [hW', Below.heap_setCell _ _ _ _ hq, hg.block k (by simp; omega) (fun e => hv e.symm), Below.heap_alloc _ _ _ hk]
  obtain ⟨bn, hb2, hb3, hb4⟩ := sup_of G W.heap.size fun k hk => (hG k hk).2
  refine ⟨fun k => A k ∨ G k ∨ (W.heap.size ≤ k ∧ k < W'.heap.size), ⟨vb, us ++ [x], fun i => if i < pre.length then a i else lo, fun i => if i < pre.length then b i else bn, fun i => if i < pre.length then Gs i else G, ?_, ?_, ?_, .inl h4, ?_, ?_, ?_⟩, ⟨⟨?_, ?_, ?_, by omega, fun k hk hn => hkeep k hk (fun e => hn (e ▸ h4)) (fun e => hn (h3 k e))⟩, fun k hk => ?_⟩⟩
  · rw [hW']; exact hb1.set vb
  · rw [List.length_append, List.length_singleton]
    refine own_agr ho fun k hk => ?_
    rw [hW', Below.heap_setCell _ _ _ _ (fun e => hnr (by rw [hk, e]))]
  · intro k hk
    rcases hl with e | e
    · exact .inl (h3 k (by rw [← e]; exact hk))
    · rw [e] at hk
      have hk' := Option.some.inj hk
      have hlt := (ho.lt k (by rw [e]; exact hk)).2
      refine .inr (.inr ⟨?_, by omega⟩)
      have : (W.alloc o).heap.size = W.heap.size + 1 := by simp
      omega
  · intro k hk
    rcases hk with h | h | h
    · have := h5 k h; omega
    · have := (hG k h).2; omega
    · omega
  · intro i hi
    rw [List.length_append, List.length_singleton] at hi
    have hnew : ∀ k, vb.ownBlock = some k → v.ownBlock = some k ∨ W.heap.size ≤ k := fun k hk => by
      rcases hl with e | e
      · exact .inl (by rw [← e]; exact hk)
      · rw [e] at hk
        have hk' := Option.some.inj hk
        have : (W.alloc o).heap.size = W.heap.size + 1 := by simp
        exact .inr (by omega)
    by_cases e : i < pre.length
    · have e1 : (us ++ [x]).getD i undef = us.getD i undef := by simp [List.getD_eq_getElem?_getD, List.getElem?_append_left (show i < us.length by omega)]
      simp only [if_pos e, List.getElem_append_left e, e1]
      obtain ⟨g1, g2, g3, g4, g5⟩ := h6 i e
      refine ⟨valM_agr g1 fun k hk => hkeep k (h5 k (g2 k hk).1) ?_ ?_, fun k hk => ⟨.inl (g2 k hk).1, (g2 k hk).2⟩, g3.imp id .inl, g4, fun k hk => ?_⟩
      · have := (g2 k hk).2; omega
      · intro e2
        have := g5 k e2; have := (g2 k hk).2; omega
      · rcases hnew k hk with h | h
        · exact g5 k h
        · right
          rcases g3 with h0 | h0
          · omega
          · have := h5 _ h0; omega
    · obtain rfl : i = pre.length := by omega
      have e1 : (us ++ [x]).getD pre.length undef = x := by rw [← hul]; simp [List.getD_eq_getElem?_getD]
      simp only [if_neg e, e1]
      rw [show (pre ++ [m])[pre.length] = m by simp]
      refine ⟨valM_agr hval fun k hk => hkeep k (hG k hk).2 ?_ ?_, fun k hk => ⟨.inr (.inl hk), (hG k hk).1, hb2 k hk⟩, hb3.imp id (fun h => .inr (.inl h)), hA q h4, fun k hk => ?_⟩
      · have := (hG k hk).1; have := hA q h4; omega
      · intro e2
        have := hA k (h3 k e2); have := (hG k hk).1; omega
      · rcases hnew k hk with h | h
        · exact .inl (hA k (h3 k h))
        · exact .inr (by omega)
  · intro i j hij hj
    rw [List.length_append, List.length_singleton] at hj
    have hi : i < pre.length := by omega
    simp only [if_pos hi]
    by_cases e : j < pre.length
    · simp only [if_pos e]; exact h7 i j hij e
    · simp only [if_neg e]
      rcases (h6 i hi).2.2.1 with h | h
      · omega
      · have := hA _ h; omega
  · rw [hW']; exact hg.os
  · rw [hW']; exact hg.tape
  · rw [hW']; exact hg.output
  · rcases hk with h | h | h
    · exact .inl h
    · exact .inr (.inl h)
    · exact .inr (.inr h.1)
theorem ownIms_putObj {W : World} {lo k : Nat} {v : Value} {ms : List (List (List Int))} {o o' : Obj} (h : OwnIms W lo v ms) (hk : W.heap[k]? = some o) (ho : o.isCells = false) : OwnIms (W.putObj k o') lo v ms := by
  obtain ⟨us, a, b, h1, h2, h3⟩ := h
  refine ⟨us, a, b, ownsRow_putObj h1 _ hk ho, fun i hi => ?_, h3⟩
  obtain ⟨⟨vs, g1, g2, g3, g4⟩, g5⟩ := h2 i hi
  exact ⟨⟨vs, ownsRow_putObj g1 _ hk ho, g2, fun j hj => ⟨ownsRow_putObj (g3 j hj).1 _ hk ho, (g3 j hj).2⟩, g4⟩, g5⟩

set_option maxRecDepth 100000 in
set_option maxHeartbeats 1000000 in
theorem appendAll_any (gf : Nat) (eg : ∀ args w, (callFunc gf args).run Try.prog w = .ok (.enter gf args) w) (lb : Array Value) (L : List (List (List Int))) (w : World) (hL : L.length ≤ 100000)
    (hseq : ∀ W : World, Below w.heap.size w W → w.heap.size < W.heap.size → EachC Try.prog gf lb L ValM W (fun k => k = w.heap.size)) :
    Calls Try.prog 90 #[.slice none 0 0, .func (.func gf) #[] lb] w fun e w' => ∃ v, e = .returned v ∧ OwnIms w' w.heap.size v L ∧ Below w.heap.size w w' := by
  have HLEN := hide hL; have HSEQ := hide hseq
  obtain ⟨i0, hi, hz0, hz1, hz2⟩ := info_parts Try.infoMat
  clear hL hseq
  refine (callsIn_wide (n := 0)).1 ?_
  refine callsIn_of_wp_marks Try.func90 rfl trivial ?_ rfl
  simp only [Try.ntmps90, List.size_toArray, List.length_cons, List.length_nil, Nat.reduceAdd, Nat.reduceSub, Array.replicate_succ, Array.replicate_zero, List.push_toArray, List.append_toArray, List.nil_append, List.cons_append]
  gi_wp2_with fail
  obtain ⟨w1, hw1⟩ : ∃ w1, w1 = w.alloc (.cells #[.slice none 0 0] 32) := ⟨_, rfl⟩
  rw [← hw1]
  have HBX := hide (show Boxed w1 w.heap.size 32 (.slice none 0 0) by rw [hw1]; exact Boxed.new _ _ _)
  have B1 := hide (show Below w.heap.size w w1 by rw [hw1]; exact (Below.refl _ w).alloc (Nat.le_refl _) _)
  have HS1 := hide (show w1.heap.size = w.heap.size + 1 by rw [hw1]; simp)
  clear hw1
  refine wp_rangeEach (gf := gf) (lb := lb) rfl eg
    (L := L) (Val := ValM) (fun v m lo G W W' h1 _ h3 => valM_agr h1 h3) (fun k => k = w.heap.size) (fun k hk => by have h1 := HS1.out; omega) (fun W4 hb4 hs4 => ?seq) rfl
    (Gath w.heap.size) (fun _ _ _ _ => False) (gath_abid _ _) (fun _ _ _ _ _ h => h.elim) (fun pre A W h => by obtain ⟨v, us, a, b, Gs, -, -, -, -, h5, -⟩ := h; exact h5)
    ⟨_, [], fun _ => 0, fun _ => 0, fun _ _ => False, HBX.out, World.ownsRow_nil _ _ _ _, fun k hk => by simp [Value.ownBlock] at hk, rfl, fun k hk => by have h1 := HS1.out; omega, fun i hi => absurd hi (Nat.not_lt_zero _), fun i j _ hj => absurd hj (Nat.not_lt_zero _)⟩
    (fun x => { tmps := #[.slice none 0 0, .func (.func gf) #[] lb, .pointer (some ⟨w.heap.size, 0, none⟩), undef, .slice none 0 0, x, .func (.func gf) #[] lb, x, undef, undef, undef, undef, undef], defers := [] }) ?assign ?body ?done ?stop
  case seq =>
    have h1 := HS1.out
    exact HSEQ.out W4 (B1.out.trans (hb4.mono B1.out.size)) (by omega)
  case assign =>
    intro l2 x m lo G W K hv hK
    obtain ⟨ax, nx, cx, rfl⟩ : ∃ a n c, x = .slice a n c := by obtain ⟨vs, ⟨hv, -⟩, -⟩ := hv; obtain ⟨a, c, h⟩ := own_slice hv; exact ⟨a, _, c, h⟩
    clear hv
    gi_wp2
    exact hK
  case body =>
    intro l2 pre A m x lo G W hgi hst hpre hval hlo hlo1 hAlo hG
    have hlen : pre.length + 1 ≤ 100000 := by have := hpre.length_le; have := HLEN.out; rw [List.length_append, List.length_singleton] at *; omega
    obtain ⟨v, us, a, b, Gs, h1, h2, h3, h4, h5, h6, h7⟩ := hgi
    obtain ⟨ax, nx, cx, rfl⟩ : ∃ a n c, x = .slice a n c := by obtain ⟨vs, ⟨hv, -⟩, -⟩ := id hval; obtain ⟨a, c, h⟩ := own_slice hv; exact ⟨a, _, c, h⟩
    obtain ⟨av, cv, rfl⟩ := own_slice h2
    have HG0 := hide fun (w1 : World) (vb : Value) (g1 : _) (g2 : _) (g3 : _) => gath_push (w1 := w1) (o := .cells #[.slice ax nx cx] 23) (vb := vb) h1 h2 h3 h4 h5 h6 h7 hval hAlo hG g1 g2 g3 rfl rfl
    have hqs : w.heap.size ≤ W.heap.size := by have := h1.lt; omega
    have H1 := hide h1
    have H2 := hide h2
    have hcu := h1.cell
    clear h1 h2 h3 h4 h5 h6 h7 hst hpre hval hlo hlo1 hAlo hG
    have HB1 := hide fun (w1 : World) (hg : (W.alloc (.cells #[.slice ax nx cx] 23)).grownBy w1 (Value.slice av pre.length cv).ownBlock) => show Boxed w1 w.heap.size 32 (.slice av pre.length cv) from (H1.out.alloc (.cells #[.slice ax nx cx] 23)).kept hg ((H1.out.alloc (.cells #[.slice ax nx cx] 23)).not_row (by decide) (H2.out.alloc (.cells #[.slice ax nx cx] 23)))
    have hz : (Value.slice ax nx cx).oneCell' = true := by simp [Value.oneCell']
    have hzz : ∀ u ∈ [Value.slice ax nx cx], u.oneCell' = true := by intro u hu; rw [List.mem_singleton.1 hu]; exact hz
    have hm1 : pre.length + 1 ≤ maxLen := by unfold maxLen; omega
    have hm2 : (pre.length + 1) * 24 ≤ 140737488355328 := by omega
    have hbs : w.heap.size ≤ (W.alloc (.cells #[.slice ax nx cx] 23)).heap.size := by simp; omega
    gi_wp2_with (gi_at_builtin; (refine wpListIn_append_own_at _ rfl _ _ 32 rfl w.heap.size 23 i0 (.slice none 0 0) 1 24 Try.underlying32 hi hz0 hz1 hz2 rfl (by decide) _ _ _ rfl (H2.out.alloc _) ⟨W.heap.size, 0, none⟩ 1 1 [.slice ax nx cx] rfl rfl (cell_one_new _ _ _) hzz hm1 hm2 hbs ?_; intro v' w1 hown' hgrow _ hlies; obtain ⟨g', cap', rfl⟩ := ownsRow_succ hown'; have hb1 := HB1.out w1 hgrow; have hc1 := hb1.cell; have hf1 := hb1.frozen))
    exact HG0.out _ _ hown' hgrow hlies
  case done =>
    intro A W hgi hst _ hmk
    obtain ⟨v, hbx, hown⟩ := gath_own hgi
    obtain ⟨av, cv, rfl⟩ : ∃ a cp, v = .slice a L.length cp := by obtain ⟨us, a, b, hv, -⟩ := hown; exact own_slice hv
    have hcu := hbx.cell
    have HMK := hide hmk
    have HOW := hide hown
    have HBB := hide (below_itStep B1.out (fun k hk => by omega) hst)
    clear hgi hst hmk hown hbx
    gi_wp2
    refine ⟨by simp, .inl ⟨_, _, rfl, run_takeDeferred HMK.out, ?_⟩⟩
    refine ⟨_, results_tmp rfl _ _ _, _, rfl, ?_, below_putObj HBB.out B1.out.size _⟩
    exact ownIms_putObj HOW.out HMK.out rfl
  case stop =>
    intro cc pre A W hpre h
    exact h.elim

theorem ownIms_below {W W' : World} {lo : Nat} {v : Value} {ms : List (List (List Int))} (h : OwnIms W lo v ms) (hb : Below W.heap.size W W') : OwnIms W' lo v ms := by
  obtain ⟨us, a, b, h1, h2, h3⟩ := h
  exact ⟨us, a, b, own_below h1 hb, fun i hi => ⟨ownMat_below (h2 i hi).1 hb, (h2 i hi).2⟩, h3⟩
theorem ownIms_base {W : World} {lo lo' : Nat} {v : Value} {ms : List (List (List Int))} (h : OwnIms W lo v ms) (hl : lo' ≤ lo) : OwnIms W lo' v ms := by
  obtain ⟨us, a, b, h1, h2, h3⟩ := h
  exact ⟨us, a, b, own_base h1 hl, fun i hi => ⟨(h2 i hi).1, Nat.le_trans hl (h2 i hi).2.1, (h2 i hi).2.2⟩, h3⟩
theorem ownIms_nil (W : World) (lo : Nat) : OwnIms W lo (.slice none 0 0) [] := ⟨[], fun _ => 0, fun _ => 0, World.ownsRow_nil _ _ _ _, fun _ h => absurd h (Nat.not_lt_zero _), fun _ _ _ h => absurd h (Nat.not_lt_zero _)⟩
set_option maxHeartbeats 400000 in
theorem collectAll_any (gf : Nat) (eg : ∀ args w, (callFunc gf args).run Try.prog w = .ok (.enter gf args) w) (lb : Array Value) (L : List (List (List Int))) (w : World) (hL : L.length ≤ 100000)
    (hseq : ∀ W : World, Below w.heap.size w W → w.heap.size < W.heap.size → EachC Try.prog gf lb L ValM W (fun k => k = w.heap.size)) :
    Calls Try.prog 52 #[.func (.func gf) #[] lb] w fun e w' => ∃ v, e = .returned v ∧ OwnIms w' w.heap.size v L ∧ Below w.heap.size w w' := by
  have HX := hide (appendAll_any gf eg lb L w hL hseq)
  clear hL hseq eg
  go_enter Try.func52, Try.ntmps52
  go_wp2_with (go_at_call 90; refine HX.out.mono ?_; rintro e w' ⟨u, rfl, ho, hb⟩; obtain ⟨au, cu, rfl⟩ : ∃ a cp, u = .slice a L.length cp := by { obtain ⟨us, a, b, hv, -⟩ := id ho; exact own_slice hv }; have HO := hide (And.intro ho hb); clear ho hb)
  go_ret
  exact ⟨_, rfl, HO.out.1, HO.out.2⟩

/-- The call answers a list of images of its own, apart, and a bool. -/
def ImsRes2 (ms : List (List (List Int))) (b : Bool) (w : World) (e : Ending) (w' : World) : Prop := ∃ v, e = .returned (.tuple #[v, .bool b]) ∧ OwnIms w' w.heap.size v ms ∧ Below w.heap.size w w'
set_option maxHeartbeats 1000000 in
theorem implAllIm_any (va vb : Value) (r c : List Int) (w : World) (ha : RowC w va r) (hb : RowC w vb c) :
    Calls Try.prog 17 #[va, vb] w (ImsRes2 (allIm r c) (sumsOk r c) w) := by
  have HA := hide ha.1; have HB := hide hb.1
  cases h : sumsOk r c with
  | false =>
    rw [allIm_refused h]
    have H := hide h
    clear h ha hb
    go_enter Try.func17, Try.ntmps17
    go_wp2_with ((with_reducible refine (implSumsOk_any va vb r c _ HA.out HB.out).mono ?_); rw [H.out]; rintro e w1 ⟨rfl, b1⟩; have B1 := hide b1; clear b1)
    go_ret2
    exact ⟨_, rfl, ownIms_nil _ _, B1.out⟩
  | true =>
    rw [allIm_sums h]
    have H := hide h
    have HRC := hide ha
    obtain ⟨xa, ca, hva, -, -⟩ := ha.1
    obtain ⟨xb, cb, hvb, -, -⟩ := hb.1
    subst hva hvb
    have HIW := hide fun w' (hw : Below w.heap.size w w') => imagesWith_any _ _ r c w' (rowC_below HRC.out hw) (inRow_below HB.out hw)
    have HLEN := hide (show (allL r c).length ≤ 100000 by rw [← allIm_sums h]; exact allIm_len r c)
    have HCO := hide fun (w1 w3 : World) (h1 : Below w.heap.size w w1) (h3 : Below w1.heap.size w1 w3) (hs : w3.heap.size = w1.heap.size + 3) (hx1 : w3.cell? ⟨w1.heap.size, 0, none⟩ = some (.slice xa r.length ca)) (hx2 : w3.cell? ⟨w1.heap.size + 1, 0, none⟩ = some (.slice xb c.length cb)) (hx3 : w3.cell? ⟨w1.heap.size + 2, 0, none⟩ = some (.func (.func 73) #[] #[])) =>
      collectAll_any 101 (enters_of Try.func101 (by kernel_rfl) rfl) #[.pointer (some ⟨w1.heap.size, 0, none⟩), .pointer (some ⟨w1.heap.size + 2, 0, none⟩), .pointer (some ⟨w1.heap.size + 1, 0, none⟩)] (allL r c) w3 HLEN.out
        (fun W hW hlt => iter_start HRC.out HB.out h ((h1.trans (h3.mono h1.size)).trans (hW.mono (h1.trans (h3.mono h1.size)).size)) (fun k hk => ⟨by have := h1.size; omega, by omega⟩) (below_cell hW (by omega) hx1) (below_cell hW (by omega) hx2) (below_cell hW (by omega) hx3) (by omega) (by omega) (by omega))
    obtain ⟨R, hR⟩ : ∃ R, R = r.length := ⟨_, rfl⟩
    obtain ⟨C, hCC⟩ : ∃ C, C = c.length := ⟨_, rfl⟩
    rw [← hR] at HA HRC HIW HCO ⊢
    rw [← hCC] at HB HIW HCO ⊢
    clear h ha hb hR hCC
    go_enter Try.func17, Try.ntmps17
    go_wp2_with ((with_reducible refine (implSumsOk_any _ _ r c _ HA.out HB.out).mono ?_); rw [H.out]; rintro e w1 ⟨rfl, b1⟩; have B1 := hide b1; clear b1)
    refine (HIW.out _ B1.out).mono ?_
    rintro e w2 ⟨rfl, hx1, hx2, hx3, hb2, hs2⟩
    have B2 := hide (B1.out.trans (hb2.mono B1.out.size))
    have HCO2 := hide (HCO.out _ w2 B1.out hb2 hs2 hx1 hx2 hx3)
    clear hx1 hx2 hx3 hb2 hs2
    go_wp2_with fail
    refine HCO2.out.mono ?_
    rintro e w3 ⟨u, rfl, ho, hb3⟩
    obtain ⟨au, cu, rfl⟩ : ∃ a cp, u = .slice a (allL r c).length cp := by obtain ⟨us, a, b, hv, -⟩ := id ho; exact own_slice hv
    have HO := hide (And.intro (ownIms_base ho B2.out.size) (B2.out.trans (hb3.mono B2.out.size)))
    clear ho hb3
    go_wp2
    go_ret2
    exact ⟨_, rfl, HO.out.1, HO.out.2⟩
end Go.Proofs.Ytjgkblgilnfpfaa
/-
  Lists of images: read, marked and held.
-/
namespace Go.Proofs.Ytjgkblgilnfpfaa
open Go.RowKit

def In3F (w : World) (v : Value) (n : Nat) (F : Nat → List (List Int)) : Prop :=
  ∃ a c, v = .slice a n c ∧ n ≤ maxLen ∧ (n = 0 ∨ ∃ g o, a = some ⟨g, o, none⟩ ∧ g < w.heap.size ∧ ∀ i, i < n → ∃ u, w.cell? ⟨g, o + i, none⟩ = some u ∧ InMat w u (F i))
theorem in3_below {w w' : World} {v : Value} {n : Nat} {F : Nat → List (List Int)} (h : In3F w v n F) (hb : Below w.heap.size w w') : In3F w' v n F := by
  obtain ⟨a, c, hv, hm, hp⟩ := h
  refine ⟨a, c, hv, hm, ?_⟩
  rcases hp with h0 | ⟨g, o, ha, hg, hc⟩
  · exact .inl h0
  · refine .inr ⟨g, o, ha, Nat.lt_of_lt_of_le hg hb.size, fun i hi => ?_⟩
    obtain ⟨u, hu, hr⟩ := hc i hi
    exact ⟨u, below_cell hb hg hu, inMat_below hr hb⟩
/-- A list of images of the call's own, read only. -/
def OwnU (w : World) (lo hi : Nat) (v : Value) (n : Nat) (F : Nat → List (List Int)) : Prop :=
  ∃ us : List Value, w.ownsRow lo 23 1 v n us ∧ (∀ k, v.ownBlock = some k → k < hi) ∧ ∀ i, i < n → OwnMat w lo hi (us.getD i undef) (F i)
theorem ownU_below {w w' : World} {lo hi : Nat} {v : Value} {n : Nat} {F : Nat → List (List Int)} (h : OwnU w lo hi v n F) (hb : Below w.heap.size w w') : OwnU w' lo hi v n F := by
  obtain ⟨us, h1, h2, h3⟩ := h
  exact ⟨us, own_below h1 hb, h2, fun i hi => ownMat_below (h3 i hi) hb⟩
theorem ownU_within {w w' : World} {lo hi lo' hi' : Nat} {v : Value} {n : Nat} {F : Nat → List (List Int)} (h : OwnU w lo hi v n F) (hw : Within lo' hi' w w') (ha : hi ≤ lo' ∨ hi' ≤ lo) : OwnU w' lo hi v n F := by
  obtain ⟨us, h1, h2, h3⟩ := h
  exact ⟨us, own_within h1 hw fun k hk => by have h4 := h2 k hk; have h5 := (h1.lt k hk).1; omega, h2, fun i hi => ownMat_within (h3 i hi) hw ha⟩
theorem in3_ownU {w : World} {lo hi : Nat} {v : Value} {n : Nat} {F : Nat → List (List Int)} (h : OwnU w lo hi v n F) : In3F w v n F := by
  obtain ⟨us, h1, -, h3⟩ := h
  by_cases h0 : n = 0
  · subst h0
    obtain ⟨a, c, rfl⟩ := own_slice h1
    exact ⟨a, c, rfl, Nat.zero_le _, .inl rfl⟩
  · obtain ⟨g, cap, rfl, -, hg, hc, hm, -, -⟩ := own_some h1 (by omega)
    exact ⟨_, _, rfl, by omega, .inr ⟨g, 0, rfl, hg, fun i hi => ⟨_, by rw [Nat.zero_add]; exact cell_held h1 hi, inMat_own (h3 i hi)⟩⟩⟩
theorem ownU_imgs {w : World} {lo : Nat} {v : Value} {ms : List (List (List Int))} (h : OwnImgs w lo v ms) : OwnU w lo w.heap.size v ms.length fun i => ms.getD i [] := by
  obtain ⟨us, h1, h2⟩ := h
  refine ⟨us, h1, fun k hk => (h1.lt k hk).2, fun i hi => ?_⟩
  obtain ⟨hi', g1, g2⟩ := h2 i hi
  show OwnMat w lo w.heap.size _ (ms.getD i [])
  rw [List.getD_eq_getElem?_getD (l := ms), List.getElem?_eq_getElem hi, Option.getD_some]
  exact ownMat_mono g2 (Nat.le_refl _) g1
/-- A list of images of the call's own, apart from one another. -/
def Own3F (w : World) (lo hi : Nat) (v : Value) (n : Nat) (F : Nat → List (List Int)) : Prop :=
  ∃ (us : List Value) (a b : Nat → Nat), w.ownsRow lo 23 1 v n us ∧ (∀ k, v.ownBlock = some k → k < hi) ∧ (∀ i, i < n → OwnMat w (a i) (b i) (us.getD i undef) (F i) ∧ lo ≤ a i ∧ b i ≤ hi ∧ ∀ k, v.ownBlock = some k → k < a i ∨ b i ≤ k) ∧ ∀ i j, i < j → j < n → b i ≤ a j
theorem own3_u {w : World} {lo hi : Nat} {v : Value} {n : Nat} {F : Nat → List (List Int)} (h : Own3F w lo hi v n F) : OwnU w lo hi v n F := by
  obtain ⟨us, a, b, h1, h2, h3, -⟩ := h
  exact ⟨us, h1, h2, fun i hi => ownMat_mono (h3 i hi).1 (h3 i hi).2.1 (h3 i hi).2.2.1⟩
theorem in3_own {w : World} {lo hi : Nat} {v : Value} {n : Nat} {F : Nat → List (List Int)} (h : Own3F w lo hi v n F) : In3F w v n F := in3_ownU (own3_u h)
theorem own3_below {w w' : World} {lo hi : Nat} {v : Value} {n : Nat} {F : Nat → List (List Int)} (h : Own3F w lo hi v n F) (hb : Below w.heap.size w w') : Own3F w' lo hi v n F := by
  obtain ⟨us, a, b, h1, h2, h3, h4⟩ := h
  exact ⟨us, a, b, own_below h1 hb, h2, fun i hi => ⟨ownMat_below (h3 i hi).1 hb, (h3 i hi).2⟩, h4⟩
theorem own3_within {w w' : World} {lo hi lo' hi' : Nat} {v : Value} {n : Nat} {F : Nat → List (List Int)} (h : Own3F w lo hi v n F) (hw : Within lo' hi' w w') (ha : hi ≤ lo' ∨ hi' ≤ lo) : Own3F w' lo hi v n F := by
  obtain ⟨us, a, b, h1, h2, h3, h4⟩ := h
  exact ⟨us, a, b, own_within h1 hw fun k hk => by have h4 := h2 k hk; have h5 := (h1.lt k hk).1; omega, h2, fun i hi => ⟨ownMat_within (h3 i hi).1 hw (by have := (h3 i hi).2; omega), (h3 i hi).2⟩, h4⟩
theorem own3_ims {w : World} {lo : Nat} {v : Value} {ms : List (List (List Int))} (h : OwnIms w lo v ms) : Own3F w lo w.heap.size v ms.length fun i => ms.getD i [] := by
  obtain ⟨us, a, b, h1, h2, h3⟩ := h
  refine ⟨us, a, fun i => min (b i) w.heap.size, h1, fun k hk => (h1.lt k hk).2, fun i hi => ?_, fun i j hij hj => Nat.le_trans (Nat.min_le_left _ _) (h3 i j hij hj)⟩
  obtain ⟨⟨vs, g1, g2, g3, g4⟩, g5, g6⟩ := h2 i hi
  refine ⟨?_, g5, Nat.min_le_right _ _, fun k hk => (g6 k hk).imp id (fun h => Nat.le_trans (Nat.min_le_left _ _) h)⟩
  show OwnMat w (a i) _ _ (ms.getD i [])
  rw [List.getD_eq_getElem?_getD (l := ms), List.getElem?_eq_getElem hi, Option.getD_some]
  exact ⟨vs, g1, fun k hk => Nat.lt_min.2 ⟨g2 k hk, (g1.lt k hk).2⟩, fun j hj => ⟨(g3 j hj).1, fun k hk => Nat.lt_min.2 ⟨(g3 j hj).2 k hk, ((g3 j hj).1.lt k hk).2⟩⟩, g4⟩
/-- The cells of the first images. -/
def c3 (F : Nat → List (List Int)) : Nat → Nat
  | 0 => 0
  | i + 1 => c3 F i + cellsM (F i)
theorem c3_le {F : Nat → List (List Int)} {n : Nat} (h : ∀ i, i < n → (F i).length ≤ 5 ∧ cellsM (F i) ≤ 25) : ∀ j, j ≤ n → c3 F j ≤ 25 * j
  | 0, _ => Nat.le_refl _
  | j + 1, hj => by
    have h1 := c3_le h j (by omega)
    have h2 := (h j (by omega)).2
    rw [c3]; omega
set_option maxHeartbeats 400000 in
theorem markIntSS_big (m : List (List Int)) (q lo hi : Nat) (v : Value) (w : World) (hn : m.length + cellsM m ≤ 1000000) (hq : q ≤ 2600000) (hv : OwnMat w lo hi v m) :
    Calls Try.prog 28 #[v, .int .i64 q] w fun e w' => e = .returned (.int .i64 (q + cellsM m : Nat)) ∧ OwnMat w' lo hi v (markM m q) ∧ Within lo hi w w' := by
  have hin := inMat_own hv
  obtain ⟨a, c, rfl, hm, hp⟩ := hin
  unfold maxLen at hm
  by_cases h0 : m.length = 0
  · have hr : m = [] := List.eq_nil_of_length_eq_zero h0
    subst hr
    have HV := hide hv
    clear hp hm h0 hn hv
    go_enter Try.func28, Try.ntmps28
    go_wp2
    go_loop [1, 5] (fun k i => i = .int .i64 0 ∧ k = .int .i64 q) (fun _ _ => 0)
    case atStart => exact ⟨rfl, rfl⟩
    case round =>
      obtain ⟨rfl, rfl⟩ := hrel
      go_wp2
      go_ret
      exact ⟨rfl, HV.out, within_refl _ _ _⟩
  · obtain ⟨g, o, rfl, hg, -⟩ := hp.resolve_left h0
    have ho : o = 0 := by
      obtain ⟨vs, hvs, -⟩ := hv
      rcases hvs.2 with ⟨e, _⟩ | ⟨g', cap, cur, e, _⟩
      · cases e
      · cases e; rfl
    subst ho
    have HV := hide hv
    clear hp h0 hv
    go_enter Try.func28, Try.ntmps28
    go_wp2
    go_loopw [1, 5] (fun k i w' => ∃ j t : Nat, j ≤ m.length ∧ i = .int .i64 j ∧ k = .int .i64 (q + t : Nat) ∧ cellsM (m.take j) = t ∧ OwnMat w' lo hi (.slice (some ⟨g, 0, none⟩) m.length c) (markTo m q j) ∧ Within lo hi w w') (fun _ i _ => m.length - (intOf i).toNat)
    case atStart => exact ⟨0, 0, Nat.zero_le _, rfl, rfl, by simp [cellsM], HV.out, within_refl _ _ _⟩
    case round =>
      obtain ⟨j, t, hj, rfl, rfl, ht, hown, hw⟩ := hrel
      have HT := hide ht; have HO := hide hown; have HW := hide hw
      have hle : t ≤ 1000000 := by have := cells_take m j; omega
      clear ht hown hw
      by_cases hlt : j < m.length
      · have hl := markTo_len m q j
        obtain ⟨u, hx, -, hu, huh, hset⟩ := ownMat_row HO.out j (by rw [hl]; exact hlt)
        have ha := markTo_at m q j j (by rw [hl]; exact hlt) hlt
        rw [if_neg (by omega)] at ha
        rw [ha] at hu hset
        have HU := hide hu; have HH := hide huh; have HS := hide hset
        have hrow : m[j].length ≤ 2000000 := by have := cells_row m j hlt; omega
        have HC := hide (cells_snoc m j hlt)
        have HD : Hid ((markTo m q j).set j (markR m[j].length (q + t)) = markTo m q (j + 1)) := hide (by
          rw [markTo, HT.out, List.getD_eq_getElem?_getD, List.getElem?_eq_getElem hlt]; rfl)
        clear hl ha hu huh hset
        obtain ⟨n, hnn⟩ : ∃ n, n = m[j].length := ⟨_, rfl⟩
        rw [← hnn] at HU hrow HC HD HS
        clear hnn
        go_wp2_with (go_at_call 20; refine (markIntS_any n (q + t) _ _ _ _ hrow (by omega) HU.out).mono ?_; rintro e w2 ⟨rfl, ho2, hg2⟩; have HO2 := hide ho2; have HG2 := hide hg2; clear ho2 hg2)
        go_roundw
        case rel =>
          have h1 := HS.out _ (markR n (q + t)) HO2.out (markR_len _ _) HG2.out
          rw [HD.out] at h1
          exact ⟨j + 1, t + n, by omega, by go_num, by go_num, by rw [HC.out, HT.out], h1, within_trans HW.out (within_grown HG2.out fun k hk => ⟨(HU.out.lt k hk).1, HH.out k hk⟩)⟩
        case measure => simp [intOf]; omega
      · obtain rfl : j = m.length := by omega
        have HA := hide (cells_all m m.length (Nat.le_refl _))
        go_wp2
        go_ret
        exact ⟨ret_int (by rw [← HA.out, HT.out]), HO.out, HW.out⟩

set_option maxHeartbeats 400000 in
theorem heldIntSS_big (m : List (List Int)) (q : Nat) (v : Value) (w : World) (hn : m.length + cellsM m ≤ 1000000) (hq : q ≤ 2600000) (hv : InMat w v (markM m q)) :
    Calls Try.prog 29 #[v, .int .i64 q] w fun e w' => e = .returned (.int .i64 (q + cellsM m : Nat)) ∧ Below w.heap.size w w' := by
  have hl := markM_len m q
  obtain ⟨a, c, rfl, -, hp⟩ := hv
  by_cases h0 : m.length = 0
  · have hr : m = [] := List.eq_nil_of_length_eq_zero h0
    subst hr
    clear hp h0 hn hl
    go_enter Try.func29, Try.ntmps29
    go_wp2
    go_loop [1, 5] (fun k i => i = .int .i64 0 ∧ k = .int .i64 q) (fun _ _ => 0)
    case atStart => exact ⟨rfl, rfl⟩
    case round =>
      obtain ⟨rfl, rfl⟩ := hrel
      go_wp2
      go_ret
      exact ⟨rfl, Below.refl _ _⟩
  · obtain ⟨g, o, rfl, hg, hcell⟩ := hp.resolve_left (by rw [hl]; exact h0)
    have HC := hide hcell; have HL := hide hl
    rw [hl]
    clear hp hcell h0 hl
    go_enter Try.func29, Try.ntmps29
    go_wp2
    go_loopw [1, 5] (fun k i w' => ∃ j t : Nat, j ≤ m.length ∧ i = .int .i64 j ∧ k = .int .i64 (q + t : Nat) ∧ cellsM (m.take j) = t ∧ Below w.heap.size w w') (fun _ i _ => m.length - (intOf i).toNat)
    case atStart => exact ⟨0, 0, Nat.zero_le _, rfl, rfl, by simp [cellsM], Below.refl _ _⟩
    case round =>
      obtain ⟨j, t, hj, rfl, rfl, ht, hb⟩ := hrel
      have HT := hide ht; have HB := hide hb
      have hle : t ≤ 1000000 := by have := cells_take m j; omega
      clear ht hb
      by_cases hlt : j < m.length
      · obtain ⟨u, hx, hr⟩ := HC.out j (by rw [HL.out]; exact hlt)
        have hx : wr.cell? ⟨g, o + j, none⟩ = some u := below_cell HB.out hg hx
        have hr := inRow_below hr HB.out
        rw [markM_at m q j _ hlt, HT.out] at hr
        have HR := hide hr
        have hrow : m[j].length ≤ 2000000 := by have := cells_row m j hlt; omega
        have HS := hide (cells_snoc m j hlt)
        clear hr
        obtain ⟨n, hnn⟩ : ∃ n, n = m[j].length := ⟨_, rfl⟩
        rw [← hnn] at HR hrow HS
        clear hnn
        go_wp2_with (go_at_call 58; refine (heldIntS_any n (q + t) _ _ hrow (by omega) HR.out).mono ?_; rintro e w2 ⟨rfl, hb2⟩; have HB2 := hide hb2; clear hb2)
        go_roundw
        case rel => exact ⟨j + 1, t + n, by omega, by go_num, by go_num, by rw [HS.out, HT.out], HB.out.trans (HB2.out.mono HB.out.size)⟩
        case measure => simp [intOf]; omega
      · obtain rfl : j = m.length := by omega
        have HA := hide (cells_all m m.length (Nat.le_refl _))
        go_wp2
        go_ret
        exact ⟨ret_int (by rw [← HA.out, HT.out]), HB.out⟩
set_option maxHeartbeats 400000 in
theorem eqIntSSS_same (va vb : Value) (n : Nat) (F : Nat → List (List Int)) (w : World) (ha : In3F w va n F) (hb : In3F w vb n F) :
    Calls Try.prog 18 #[va, vb] w fun e w' => e = .returned (.bool true) ∧ Below w.heap.size w w' := by
  obtain ⟨a, ca, rfl, hm, hpa⟩ := ha
  obtain ⟨b, cb, rfl, -, hpb⟩ := hb
  unfold maxLen at hm
  by_cases h0 : n = 0
  · subst h0
    clear hpa hpb hm
    go_enter Try.func18, Try.ntmps18
    go_wp2
    go_loop [5] (fun i => i = .int .i64 0) (fun _ => 0)
    case atStart => rfl
    case round =>
      obtain rfl := hrel
      go_wp2
      go_ret
      exact ⟨rfl, Below.refl _ _⟩
  · obtain ⟨ga, oa, rfl, hga, hca⟩ := hpa.resolve_left h0
    obtain ⟨gb, ob, rfl, hgb, hcb⟩ := hpb.resolve_left h0
    have HA := hide hca; have HB := hide hcb
    clear hpa hpb hca hcb h0
    go_enter Try.func18, Try.ntmps18
    go_wp2
    go_loopw [5] (fun i w' => ∃ k : Nat, k ≤ n ∧ i = .int .i64 k ∧ Below w.heap.size w w') (fun i _ => n - (intOf i).toNat)
    case atStart => exact ⟨0, Nat.zero_le _, rfl, Below.refl _ _⟩
    case round =>
      obtain ⟨k, hk, rfl, hb⟩ := hrel
      by_cases hlt : k < n
      · obtain ⟨ua, hxa, hra⟩ := HA.out k hlt
        obtain ⟨ub, hxb, hrb⟩ := HB.out k hlt
        have hxa := below_cell hb hga hxa
        have hxb := below_cell hb hgb hxb
        have HRA := hide (inMat_below hra hb)
        have HRB := hide (inMat_below hrb hb)
        have hgra : ga < wr.heap.size := Nat.lt_of_lt_of_le hga hb.size
        have hgrb : gb < wr.heap.size := Nat.lt_of_lt_of_le hgb hb.size
        clear hra hrb
        have hb := hide hb
        go_wp2
        go_region_held3 (fun w' => w'.cell? ⟨ga, oa + k, none⟩ = some ua ∧ w'.cell? ⟨gb, ob + k, none⟩ = some ub ∧ Below wr.heap.size wr w') (first | exact ⟨hxa, hxb, (Below.refl _ _).drew⟩ | exact ⟨below_cell (w := wr) ((Below.refl _ _).drew.trans hb') hgra hxa, below_cell (w := wr) ((Below.refl _ _).drew.trans hb') hgrb hxb, (Below.refl _ _).drew.trans hb'⟩) (first | (go_at_call 27; refine (eqIntSS_same _ _ _ _ (inMat_below HRA.out ((Below.refl _ _).drew)) (inMat_below HRB.out ((Below.refl _ _).drew))).mono ?_; rintro e w' ⟨rfl, hb'⟩))
        go_wp2
        obtain ⟨-, -, hS⟩ := ‹World.cell? _ _ = _ ∧ World.cell? _ _ = _ ∧ Below _ _ _›
        go_roundw
        case rel => exact ⟨k + 1, by omega, by go_num, hb.out.trans (hS.mono hb.out.size)⟩
        case measure => simp [intOf]; omega
      · go_wp2
        go_ret
        exact ⟨rfl, hb⟩


set_option maxHeartbeats 400000 in
theorem markIntSSS_any (n : Nat) (F : Nat → List (List Int)) (q lo hi : Nat) (v : Value) (w : World) (hF : ∀ i, i < n → (F i).length ≤ 5 ∧ cellsM (F i) ≤ 25) (hn : n ≤ 100000) (hq : q ≤ 10) (hv : Own3F w lo hi v n F) :
    Calls Try.prog 21 #[v, .int .i64 q] w fun e w' => e = .returned (.int .i64 (q + c3 F n : Nat)) ∧ Own3F w' lo hi v n (fun i => markM (F i) (q + c3 F i)) ∧ Within lo hi w w' := by
  obtain ⟨us, a, b, h1, h2, h3, h4⟩ := hv
  obtain ⟨sa, sc, rfl⟩ := own_slice h1
  have H2 := hide h2; have H4 := hide h4
  have HB3 := hide fun i hi => (h3 i hi).2
  have HC3 := hide (c3_le hF)
  have HF := hide hF
  have HP := hide fun (h : 0 < n) => own_some h1 h
  have HS := hide (show w.ownsRow lo 23 1 (.slice sa n sc) n us ∧ ∀ i, i < n → OwnMat w (a i) (b i) (us.getD i undef) (if i < 0 then markM (F i) (q + c3 F i) else F i) from ⟨h1, fun i hi => by rw [if_neg (by omega)]; exact (h3 i hi).1⟩)
  clear h1 h2 h3 h4 hF
  go_enter Try.func21, Try.ntmps21
  go_wp2
  go_loopw [1, 5] (fun k i w' => ∃ j t : Nat, j ≤ n ∧ i = .int .i64 j ∧ k = .int .i64 (q + t : Nat) ∧ c3 F j = t ∧ (w'.ownsRow lo 23 1 (.slice sa n sc) n us ∧ ∀ i, i < n → OwnMat w' (a i) (b i) (us.getD i undef) (if i < j then markM (F i) (q + c3 F i) else F i)) ∧ Within lo hi w w') (fun _ i _ => n - (intOf i).toNat)
  case atStart => exact ⟨0, 0, Nat.zero_le _, rfl, rfl, rfl, HS.out, within_refl _ _ _⟩
  case round =>
    obtain ⟨j, t, hj, rfl, rfl, ht, hown, hw⟩ := hrel
    have HT := hide ht; have HO := hide hown; have HW := hide hw
    have hle : t ≤ 2500000 := by rw [← ht]; have := HC3.out j hj; omega
    clear ht hown hw
    by_cases hlt : j < n
    · obtain ⟨g, cap, hsl, -, -, -, -, -, -⟩ := HP.out (by omega)
      cases hsl
      have hx := cell_held HO.out.1 hlt
      have hmj := HO.out.2 j hlt
      rw [if_neg (by omega)] at hmj
      have HMJ := hide hmj
      obtain ⟨u, hu⟩ : ∃ u, u = us.getD j undef := ⟨_, rfl⟩
      have HU := hide hu
      rw [← hu] at hx HMJ
      obtain ⟨ua, un, uc, rfl⟩ : ∃ a n c, u = .slice a n c := by obtain ⟨a, c, h, -⟩ := inMat_own HMJ.out; exact ⟨a, _, c, h⟩
      obtain ⟨m, hm⟩ : ∃ m, m = F j := ⟨_, rfl⟩
      have HM := hide hm
      rw [← hm] at HMJ
      have hmb : m.length + cellsM m ≤ 1000000 := by have := HF.out j hlt; rw [hm]; omega
      have HMB := hide hmb
      clear hmj hu hm hmb
      go_wp2_with (go_at_call 28; refine (markIntSS_big m (q + t) (a j) (b j) _ _ HMB.out (by omega) HMJ.out).mono ?_; rintro e w2 ⟨rfl, ho2, hg2⟩; have HO2 := hide ho2; have HG2 := hide hg2; clear ho2 hg2)
      go_roundw
      case rel =>
        obtain ⟨g1, g2, g3⟩ := HB3.out j hlt
        refine ⟨j + 1, t + cellsM m, by omega, by go_num, by go_num, by rw [c3, HT.out, HM.out], ⟨own_within HO.out.1 HG2.out g3, fun i hi => ?_⟩, within_trans HW.out ⟨HG2.out.os, HG2.out.tape, HG2.out.output, HG2.out.size, fun k hk ho => HG2.out.block k hk (by omega)⟩⟩
        rcases Nat.lt_trichotomy i j with h | h | h
        · rw [if_pos (by omega)]
          have := HO.out.2 i hi
          rw [if_pos h] at this
          exact ownMat_within this HG2.out (.inl (H4.out i j h hlt))
        · subst h
          rw [if_pos (by omega), HT.out, ← HU.out, ← HM.out]
          exact HO2.out
        · rw [if_neg (by omega)]
          have := HO.out.2 i hi
          rw [if_neg (by omega)] at this
          exact ownMat_within this HG2.out (.inr (H4.out j i h hi))
      case measure => simp [intOf]; omega
    · obtain rfl : j = n := by omega
      go_wp2
      go_ret
      exact ⟨ret_int (by rw [HT.out]), ⟨us, a, b, HO.out.1, H2.out, fun i hi => ⟨by have := HO.out.2 i hi; rw [if_pos hi] at this; exact this, HB3.out i hi⟩, H4.out⟩, HW.out⟩

set_option maxHeartbeats 400000 in
theorem heldIntSSS_any (n : Nat) (F : Nat → List (List Int)) (q : Nat) (v : Value) (w : World) (hF : ∀ i, i < n → (F i).length ≤ 5 ∧ cellsM (F i) ≤ 25) (hn : n ≤ 100000) (hq : q ≤ 10) (hv : In3F w v n (fun i => markM (F i) (q + c3 F i))) :
    Calls Try.prog 22 #[v, .int .i64 q] w fun e w' => e = .returned (.int .i64 (q + c3 F n : Nat)) ∧ Below w.heap.size w w' := by
  obtain ⟨a, c, rfl, -, hp⟩ := hv
  have HC3 := hide (c3_le hF)
  have HF := hide hF
  have HP := hide fun (h : 0 < n) => hp.resolve_left (by omega)
  clear hp hF
  go_enter Try.func22, Try.ntmps22
  go_wp2
  go_loopw [1, 5] (fun k i w' => ∃ j t : Nat, j ≤ n ∧ i = .int .i64 j ∧ k = .int .i64 (q + t : Nat) ∧ c3 F j = t ∧ Below w.heap.size w w') (fun _ i _ => n - (intOf i).toNat)
  case atStart => exact ⟨0, 0, Nat.zero_le _, rfl, rfl, rfl, Below.refl _ _⟩
  case round =>
    obtain ⟨j, t, hj, rfl, rfl, ht, hb⟩ := hrel
    have HT := hide ht; have HB := hide hb
    have hle : t ≤ 2500000 := by rw [← ht]; have := HC3.out j hj; omega
    clear ht hb
    by_cases hlt : j < n
    · obtain ⟨g, o, rfl, hg, hc⟩ := HP.out (by omega)
      obtain ⟨u, hx, hr⟩ := hc j hlt
      have hx : wr.cell? ⟨g, o + j, none⟩ = some u := below_cell HB.out hg hx
      have hr := inMat_below hr HB.out
      rw [HT.out] at hr
      have HR := hide hr
      obtain ⟨ua, un, uc, rfl⟩ : ∃ a n c, u = .slice a n c := by obtain ⟨a, c, h, -⟩ := hr; exact ⟨a, _, c, h⟩
      obtain ⟨m, hm⟩ : ∃ m, m = F j := ⟨_, rfl⟩
      have HM := hide hm
      rw [← hm] at HR
      have hmb : m.length + cellsM m ≤ 1000000 := by have := HF.out j hlt; rw [hm]; omega
      have HMB := hide hmb
      clear hr hc hm hmb
      go_wp2_with (go_at_call 29; refine (heldIntSS_big m (q + t) _ _ HMB.out (by omega) HR.out).mono ?_; rintro e w2 ⟨rfl, hb2⟩; have HB2 := hide hb2; clear hb2)
      go_roundw
      case rel => exact ⟨j + 1, t + cellsM m, by omega, by go_num, by go_num, by rw [c3, HT.out, HM.out], HB.out.trans (HB2.out.mono HB.out.size)⟩
      case measure => simp [intOf]; omega
    · obtain rfl : j = n := by omega
      go_wp2
      go_ret
      exact ⟨ret_int (by rw [HT.out]), HB.out⟩
end Go.Proofs.Ytjgkblgilnfpfaa
/-
  The exact law on AllImages, walked.
-/
namespace Go.Proofs.Ytjgkblgilnfpfaa
open Go.RowKit
set_option linter.unusedVariables false

set_option maxRecDepth 100000 in
set_option maxHeartbeats 2000000 in
theorem lawAllImages_gen (a0 : Option Addr) (n0 c0 : Nat) (r0 : List Int) (a1 : Option Addr) (n1 c1 : Nat) (r1 : List Int) (w : World) (hin0 : InRow w (.slice a0 n0 c0) r0) (hin1 : InRow w (.slice a1 n1 c1) r1) (rows : List (List (List Int))) (b : Bool) (hrows : (∀ i, i < rows.length → (rows.getD i []).length ≤ 5 ∧ cellsM (rows.getD i []) ≤ 25) ∧ rows.length ≤ 100000)
    (hs : ∀ (v0 : Value) (v1 : Value) (w : World), RowC w v0 r0 → RowC w v1 r1 → Calls Try.prog 15 #[v0, v1] w (ImgsRes2 rows b w))
    (hi : ∀ (v0 : Value) (v1 : Value) (w : World), RowC w v0 r0 → RowC w v1 r1 → Calls Try.prog 17 #[v0, v1] w (ImsRes2 rows b w)) :
    Calls Try.prog 4 #[.slice a0 n0 c0, .slice a1 n1 c1] w fun e w' => e = .returned (.bool true) ∧ Below w.heap.size w w' := by
  have HI0 := hide hin0
  obtain ⟨a', c', he, hm0, -⟩ := hin0
  cases he
  unfold maxLen at hm0
  have HI1 := hide hin1
  obtain ⟨a', c', he, hm1, -⟩ := hin1
  cases he
  unfold maxLen at hm1
  by_cases hr0 : 1048576 < r0.length
  · clear hs hi
    obtain ⟨R0, hR0⟩ : ∃ R0, R0 = r0.length := ⟨_, rfl⟩
    obtain ⟨R1, hR1⟩ : ∃ R1, R1 = r1.length := ⟨_, rfl⟩
    rw [← hR0] at HI0 hm0 hr0 ⊢
    rw [← hR1] at HI1 hm1 ⊢
    clear hR0 hR1
    go_enter Try.func4, Try.ntmps4
    go_wp2
    go_ret
    exact ⟨rfl, Below.refl _ _⟩
  · by_cases hr1 : 1048576 < r1.length
    · clear hs hi
      obtain ⟨R0, hR0⟩ : ∃ R0, R0 = r0.length := ⟨_, rfl⟩
      obtain ⟨R1, hR1⟩ : ∃ R1, R1 = r1.length := ⟨_, rfl⟩
      rw [← hR0] at HI0 hm0 hr0 ⊢
      rw [← hR1] at HI1 hm1 hr1 ⊢
      clear hR0 hR1
      go_enter Try.func4, Try.ntmps4
      go_wp2
      go_ret
      exact ⟨rfl, Below.refl _ _⟩
    · have HROWS := hide hrows; have HS := hide hs; have HM := hide hi
      have HR0 : Hid (r0.length ≤ 2000000) := hide (by omega)
      have HR1 : Hid (r1.length ≤ 2000000) := hide (by omega)
      have hbb : (b != b) = false := by cases b <;> rfl
      clear hs hi hrows
      go_enter Try.func4, Try.ntmps4
      go_wp2_with fail
      refine (toIntS_any _ r0 _ HR0.out HI0.out).mono ?_
      rintro e w1 ⟨p0, rfl, ho, hb⟩
      have P0L := hide (fun k e => ho.lt k e); have P0_1 := hide ho; have HB1 := hide (hb); have s1 := hb.size; clear ho hb
      go_wp2_with fail
      refine (toIntS_any _ r1 _ HR1.out (inRow_below HI1.out HB1.out)).mono ?_
      rintro e w2 ⟨p1, rfl, ho, hb⟩
      have P0_2 := hide (own_below P0_1.out hb); have P1L := hide (fun k e => ho.lt k e); have P1_2 := hide ho; have HB2 := hide (HB1.out.trans (hb.mono HB1.out.size)); have s2 := hb.size; clear ho hb
      go_wp2_with fail
      refine (HS.out p0 p1 _ (rowC_own P0_2.out) (rowC_own P1_2.out)).mono ?_
      rintro e w3 ⟨u, rfl, ho, hb⟩
      have U_3 := hide (ownU_imgs ho); have HB3 := hide (HB2.out.trans (hb.mono HB2.out.size)); have s3 := hb.size; clear ho hb
      go_wp2_with fail
      refine (toIntS_any _ r0 _ HR0.out (inRow_below HI0.out HB3.out)).mono ?_
      rintro e w4 ⟨x0, rfl, ho, hb⟩
      have U_4 := hide (ownU_below U_3.out hb); have X0L := hide (fun k e => ho.lt k e); have X0_4 := hide ho; have HB4 := hide (HB3.out.trans (hb.mono HB3.out.size)); have s4 := hb.size; clear ho hb
      go_wp2_with fail
      refine (toIntS_any _ r1 _ HR1.out (inRow_below HI1.out HB4.out)).mono ?_
      rintro e w5 ⟨x1, rfl, ho, hb⟩
      have U_5 := hide (ownU_below U_4.out hb); have X0_5 := hide (own_below X0_4.out hb); have X1L := hide (fun k e => ho.lt k e); have X1_5 := hide ho; have HB5 := hide (HB4.out.trans (hb.mono HB4.out.size)); have s5 := hb.size; clear ho hb
      go_wp2_with fail
      refine (HM.out x0 x1 _ (rowC_own X0_5.out) (rowC_own X1_5.out)).mono ?_
      rintro e w6 ⟨g, rfl, ho, hb⟩
      have U_6 := hide (ownU_below U_5.out hb); have X0_6 := hide (own_below X0_5.out hb); have X1_6 := hide (own_below X1_5.out hb); have G_6 := hide (own3_ims ho); have HB6 := hide (HB5.out.trans (hb.mono HB5.out.size)); have s6 := hb.size; clear ho hb
      go_wp2_with fail
      refine (eqIntSSS_same g u _ _ _ (in3_own G_6.out) (in3_ownU U_6.out)).mono ?_
      rintro e w7 ⟨rfl, hb⟩
      have U_7 := hide (ownU_below U_6.out hb); have X0_7 := hide (own_below X0_6.out hb); have X1_7 := hide (own_below X1_6.out hb); have G_7 := hide (own3_below G_6.out hb); have HB7 := hide (HB6.out.trans (hb.mono HB6.out.size)); have s7 := hb.size; clear hb
      go_wp2_with fail
      refine (toIntS_any _ r0 _ HR0.out (inRow_below HI0.out HB7.out)).mono ?_
      rintro e w8 ⟨z0, rfl, ho, hb⟩
      have U_8 := hide (ownU_below U_7.out hb); have X0_8 := hide (own_below X0_7.out hb); have X1_8 := hide (own_below X1_7.out hb); have G_8 := hide (own3_below G_7.out hb); have Z0L := hide (fun k e => ho.lt k e); have Z0_8 := hide ho; have HB8 := hide (HB7.out.trans (hb.mono HB7.out.size)); have s8 := hb.size; clear ho hb
      go_wp2_with fail
      refine (eqIntS_same x0 z0 r0 _ (inRow_own X0_8.out) (inRow_own Z0_8.out)).mono ?_
      rintro e w9 ⟨rfl, hb⟩
      have U_9 := hide (ownU_below U_8.out hb); have X0_9 := hide (own_below X0_8.out hb); have X1_9 := hide (own_below X1_8.out hb); have G_9 := hide (own3_below G_8.out hb); have HB9 := hide (HB8.out.trans (hb.mono HB8.out.size)); have s9 := hb.size; clear hb
      go_wp2_with fail
      refine (toIntS_any _ r1 _ HR1.out (inRow_below HI1.out HB9.out)).mono ?_
      rintro e w10 ⟨z1, rfl, ho, hb⟩
      have U_10 := hide (ownU_below U_9.out hb); have X0_10 := hide (own_below X0_9.out hb); have X1_10 := hide (own_below X1_9.out hb); have G_10 := hide (own3_below G_9.out hb); have Z1L := hide (fun k e => ho.lt k e); have Z1_10 := hide ho; have HB10 := hide (HB9.out.trans (hb.mono HB9.out.size)); have s10 := hb.size; clear ho hb
      go_wp2_with fail
      refine (eqIntS_same x1 z1 r1 _ (inRow_own X1_10.out) (inRow_own Z1_10.out)).mono ?_
      rintro e w11 ⟨rfl, hb⟩
      have U_11 := hide (ownU_below U_10.out hb); have X0_11 := hide (own_below X0_10.out hb); have X1_11 := hide (own_below X1_10.out hb); have G_11 := hide (own3_below G_10.out hb); have HB11 := hide (HB10.out.trans (hb.mono HB10.out.size)); have s11 := hb.size; clear hb
      go_wp2_with fail
      refine (markIntS_any r0.length 1 x0 _ _ _ (by have := HR0.out; omega) (by omega) X0_11.out).mono ?_
      rintro e w12 ⟨rfl, -, hg⟩; have hwi := within_grown (lo := w3.heap.size) (hi := w4.heap.size) hg (fun k e => X0L.out k e); clear hg
      have U_12 := hide (ownU_within U_11.out hwi (by omega)); have X1_12 := hide (own_within X1_11.out hwi (fun k e => by have h1 := X1L.out k e; omega)); have G_12 := hide (own3_within G_11.out hwi (by omega)); have HB12 := hide (HB11.out.trans (below_within hwi (by omega) HB11.out.size)); have s12 := hwi.size; clear hwi
      go_wp2_with fail
      refine (markIntS_any r1.length (1 + r0.length) x1 _ _ _ (by have := HR1.out; omega) (by have := HR0.out; omega) X1_12.out).mono ?_
      rintro e w13 ⟨rfl, -, hg⟩; have hwi := within_grown (lo := w4.heap.size) (hi := w5.heap.size) hg (fun k e => X1L.out k e); clear hg
      have U_13 := hide (ownU_within U_12.out hwi (by omega)); have G_13 := hide (own3_within G_12.out hwi (by omega)); have HB13 := hide (HB12.out.trans (below_within hwi (by omega) HB12.out.size)); have s13 := hwi.size; clear hwi
      go_wp2_with fail
      refine (eqIntSSS_same g u _ _ _ (in3_own G_13.out) (in3_ownU U_13.out)).mono ?_
      rintro e w14 ⟨rfl, hb⟩
      have U_14 := hide (ownU_below U_13.out hb); have G_14 := hide (own3_below G_13.out hb); have HB14 := hide (HB13.out.trans (hb.mono HB13.out.size)); have s14 := hb.size; clear hb
      go_wp2_with fail
      refine (markIntSSS_any rows.length (fun i => rows.getD i []) 1 _ _ g _ HROWS.out.1 HROWS.out.2 (by omega) G_14.out).mono ?_
      rintro e w15 ⟨rfl, ho, hwi⟩
      have U_15 := hide (ownU_within U_14.out hwi (by omega)); have HB15 := hide (HB14.out.trans (below_within hwi (by omega) HB14.out.size)); have s15 := hwi.size; clear hwi
      have M_15 := hide (in3_own ho); clear ho
      go_wp2_with fail
      refine (heldIntSSS_any rows.length (fun i => rows.getD i []) 1 g _ HROWS.out.1 HROWS.out.2 (by omega) M_15.out).mono ?_
      rintro e w16 ⟨rfl, hb⟩
      have U_16 := hide (ownU_below U_15.out hb); have M_16 := hide (in3_below M_15.out hb); have HB16 := hide (HB15.out.trans (hb.mono HB15.out.size)); have s16 := hb.size; clear hb
      go_wp2_with fail
      refine (toIntS_any _ r0 _ HR0.out (inRow_below HI0.out HB16.out)).mono ?_
      rintro e w17 ⟨y0, rfl, ho, hb⟩
      have U_17 := hide (ownU_below U_16.out hb); have M_17 := hide (in3_below M_16.out hb); have Y0L := hide (fun k e => ho.lt k e); have Y0_17 := hide ho; have HB17 := hide (HB16.out.trans (hb.mono HB16.out.size)); have s17 := hb.size; clear ho hb
      go_wp2_with fail
      refine (toIntS_any _ r1 _ HR1.out (inRow_below HI1.out HB17.out)).mono ?_
      rintro e w18 ⟨y1, rfl, ho, hb⟩
      have U_18 := hide (ownU_below U_17.out hb); have M_18 := hide (in3_below M_17.out hb); have Y0_18 := hide (own_below Y0_17.out hb); have Y1L := hide (fun k e => ho.lt k e); have Y1_18 := hide ho; have HB18 := hide (HB17.out.trans (hb.mono HB17.out.size)); have s18 := hb.size; clear ho hb
      go_wp2_with fail
      refine (HM.out y0 y1 _ (rowC_own Y0_18.out) (rowC_own Y1_18.out)).mono ?_
      rintro e w19 ⟨h, rfl, ho, hb⟩
      have U_19 := hide (ownU_below U_18.out hb); have M_19 := hide (in3_below M_18.out hb); have H_19 := hide (own3_ims ho); have HB19 := hide (HB18.out.trans (hb.mono HB18.out.size)); have s19 := hb.size; clear ho hb
      go_wp2_with fail
      refine (eqIntSSS_same h u _ _ _ (in3_own H_19.out) (in3_ownU U_19.out)).mono ?_
      rintro e w20 ⟨rfl, hb⟩
      have U_20 := hide (ownU_below U_19.out hb); have M_20 := hide (in3_below M_19.out hb); have H_20 := hide (own3_below H_19.out hb); have HB20 := hide (HB19.out.trans (hb.mono HB19.out.size)); have s20 := hb.size; clear hb
      go_wp2_with fail
      refine (heldIntSSS_any rows.length (fun i => rows.getD i []) 1 g _ HROWS.out.1 HROWS.out.2 (by omega) M_20.out).mono ?_
      rintro e w21 ⟨rfl, hb⟩
      have M_21 := hide (in3_below M_20.out hb); have HB21 := hide (HB20.out.trans (hb.mono HB20.out.size)); have s21 := hb.size; clear hb
      go_wp2
      go_ret
      exact ⟨rfl, HB21.out⟩
theorem allIm_small (r c : List Int) : (∀ i, i < (allIm r c).length → ((allIm r c).getD i []).length ≤ 5 ∧ cellsM ((allIm r c).getD i []) ≤ 25) ∧ (allIm r c).length ≤ 100000 := by
  refine ⟨fun i hi => ?_, allIm_len r c⟩
  have hm : (allIm r c).getD i [] ∈ allIm r c := by
    rw [List.getD_eq_getElem?_getD, List.getElem?_eq_getElem hi, Option.getD_some]; exact List.getElem_mem hi
  generalize (allIm r c).getD i [] = m at hm
  unfold allIm at hm
  cases he : existsOf r c with
  | false => rw [he] at hm; simp at hm
  | true =>
    rw [he, if_pos rfl] at hm
    obtain ⟨hr, hc, -⟩ := sumsOk_yes (existsOf_sums he)
    obtain ⟨h1, h2, -⟩ := all_sound r c hr.2 hc (img_of_exists he) m hm
    refine ⟨by omega, ?_⟩
    have key : ∀ l : List (List Int), (∀ q ∈ l, q.length ≤ 5) → cellsM l ≤ 5 * l.length := by
      intro l
      induction l with
      | nil => intro _; simp [cellsM]
      | cons x l ih =>
        intro h
        have h3 := ih fun q hq => h q (List.mem_cons_of_mem _ hq)
        have h4 := h x (by simp)
        simp only [cellsM, List.map_cons, List.sum_cons, List.length_cons] at h3 ⊢
        omega
    have := key m fun q hq => by rw [h2 q hq]; exact hc.2
    omega
theorem lawAllImages_walk (a : Option Addr) (n c : Nat) (r : List Int) (b : Option Addr) (k d : Nat) (s : List Int) (w : World) (hin : InRow w (.slice a n c) r) (hin2 : InRow w (.slice b k d) s) :
    Calls Try.prog 4 #[.slice a n c, .slice b k d] w fun e w' => e = .returned (.bool true) ∧ Below w.heap.size w w' :=
  lawAllImages_gen a n c r b k d s w hin hin2 (allIm r s) (sumsOk r s) (allIm_small r s) (fun p q w hp hq => specAllIm_any p q r s w hp hq) (fun p q w hp hq => implAllIm_any p q r s w hp hq)
end Go.Proofs.Ytjgkblgilnfpfaa
/-
  slices.Grow of nil, slices.Concat of rows, and the count of fixed cells.
-/
namespace Go.Proofs
open Go.Shelf
shelf_lay_g Lays8.n4 Nm8 4 at Try 111 as Try.growI
end Go.Proofs
namespace Go.Proofs.Ytjgkblgilnfpfaa
open Go.RowKit Go.Shelf

theorem grow_nil (n : Nat) (w : World) (hn : n ≤ 1000) :
    Calls Try.prog 111 #[.slice none 0 0, .int .i64 n] w fun e w' => ∃ u, e = .returned u ∧ w'.ownsRow w.heap.size 3 1 u 0 [] ∧ Below w.heap.size w w' := by
  obtain ⟨i0, hi, hz0, hz1, hz2⟩ := info_parts Try.infoInt
  by_cases h0 : n = 0
  · subst h0
    refine (Any8.slices_Grow_room Try.growI none 0 0 0 w (by omega) (by omega) (by omega) (by omega)).mono ?_
    rintro e w' ⟨rfl, rfl⟩
    exact ⟨_, rfl, World.ownsRow_nil _ _ _ _, Below.refl _ _⟩
  · refine (Any8.slices_Grow_grow Try.growI i0 (.int .i64 0) hi hz0 (by rw [hz1]; decide) none 0 0 n [] w (by omega) (by omega) (by rw [hz2]; omega) (by omega) (by simp) (fun _ => rfl) (fun a ha => by cases ha)).mono ?_
    rintro e w' ⟨rfl, rfl⟩
    have hG : 0 + n ≤ grownCap w (0 + n) 0 3 := grownCap_ge w _ _ _
    have hM : grownCap w (0 + n) 0 3 ≤ maxLen := grownCap_le_maxLen w _ _ _ (by unfold maxLen; omega)
    refine ⟨_, rfl, World.ownsRow_made w.drew _ _ (Nat.le_refl _) hM ?_, (below_drew (Below.refl _ w)).alloc (Nat.le_refl _) _⟩
    have e25 : Try.growI_ren.t 25 = 3 := rfl
    rw [Nat.zero_add] at hG
    simp [Builtin.zeroCells, Value.cells, e25]
    omega
end Go.Proofs.Ytjgkblgilnfpfaa
/-
  slices.Concat of rows, and the count of fixed cells.
-/
namespace Go.Proofs.Ytjgkblgilnfpfaa
open Go.RowKit


set_option maxHeartbeats 400000 in
theorem countAtLeast_big (v : Value) (r : List Int) (t : Int) (w : World) (hin : InRow w v r) (hn : r.length ≤ 1000) :
    Calls Try.prog 94 #[v, .int .i64 t] w fun e w' => e = .returned (.int .i64 (atLeast t r : Nat)) ∧ w = w' := by
  obtain ⟨a, c, rfl, hm, hp⟩ := hin
  unfold maxLen at hm
  have HP := hide fun h : r.length ≠ 0 => hp.resolve_left h
  obtain ⟨n, hnn⟩ : ∃ n, n = r.length := ⟨_, rfl⟩
  have HN := hide hnn
  rw [← hnn] at hm hn ⊢
  clear hp hnn
  go_enter Try.func94, Try.ntmps94
  go_wp2
  go_loop [5, 10] (fun s i => ∃ k : Nat, k ≤ n ∧ i = .int .i64 k ∧ s = .int .i64 (atLeast t (r.take k) : Nat)) (fun _ i => n - (intOf i).toNat)
  case atStart => exact ⟨0, Nat.zero_le _, rfl, rfl⟩
  case round =>
    obtain ⟨k, hk, rfl, rfl⟩ := hrel
    have hle := Nat.le_trans (atLeast_le t (r.take k)) (show (r.take k).length ≤ 1000 by rw [List.length_take]; have := HN.out; omega)
    by_cases hlt : k < n
    · obtain ⟨g, o, rfl, hg, hc⟩ := HP.out (by have := HN.out; omega)
      have hk' : k < r.length := by rw [← HN.out]; exact hlt
      have hx := hc k hk'
      have HAT := hide (atLeast_take t r k hk')
      obtain ⟨x, hxx⟩ : ∃ x, x = r[k] := ⟨_, rfl⟩
      obtain ⟨q, hq⟩ : ∃ q, q = atLeast t (r.take k) := ⟨_, rfl⟩
      rw [← hxx] at hx HAT
      rw [← hq] at hle HAT ⊢
      clear hxx hq hc
      by_cases htx : t ≤ x
      · have HAT2 : Hid (atLeast t (r.take (k + 1)) = q + 1) := hide (by rw [HAT.out, if_pos htx])
        clear HAT
        go_wp2
        go_round
        case rel => exact ⟨k + 1, by omega, by go_num, by rw [HAT2.out]; go_num⟩
        case measure => simp [intOf]; omega
      · have HAT2 : Hid (atLeast t (r.take (k + 1)) = q) := hide (by rw [HAT.out, if_neg htx]; rfl)
        clear HAT
        go_wp2
        go_round
        case rel => exact ⟨k + 1, by omega, by go_num, by rw [HAT2.out]⟩
        case measure => simp [intOf]; omega
    · have HE : Hid (r.take k = r) := hide (List.take_of_length_le (by have := HN.out; omega))
      rw [HE.out] at hle ⊢
      go_wp2
      go_ret
      exact ⟨rfl, rfl⟩
set_option maxHeartbeats 1000000 in
theorem concat_any (v : Value) (m : List (List Int)) (w : World) (hin : InMat w v m) (hn : m.length ≤ 5) (hr : ∀ q ∈ m, 0 < q.length ∧ q.length ≤ 5) :
    Calls Try.prog 95 #[v] w (IntsRes m.flatten w) := by
  obtain ⟨a, c, rfl, -, hp⟩ := hin
  have HP := hide fun (h : 0 < m.length) => hp.resolve_left (by omega)
  have hcm : ∀ k, k ≤ m.length → cellsM (m.take k) ≤ 5 * k := by
    intro k
    induction k with
    | zero => intro _; simp [cellsM]
    | succ k ih =>
      intro hk
      have h1 := ih (by omega)
      have h2 := (hr _ (List.getElem_mem (show k < m.length by omega))).2
      rw [cells_snoc m k (by omega)]; omega
  have HCM := hide hcm; have HR := hide hr
  obtain ⟨n, hnn⟩ : ∃ n, n = m.length := ⟨_, rfl⟩
  have HN := hide hnn
  rw [← hnn] at HCM hn ⊢
  clear hp hcm hr hnn
  go_enter Try.func95, Try.ntmps95
  go_wp2
  go_loop [3, 11] (fun s i => ∃ j t : Nat, j ≤ n ∧ i = .int .i64 j ∧ s = .int .i64 t ∧ cellsM (m.take j) = t ∧ t ≤ 25) (fun _ i => n - (intOf i).toNat)
  case atStart => exact ⟨0, 0, Nat.zero_le _, rfl, rfl, by simp [cellsM], by omega⟩
  case round =>
    obtain ⟨j, t, hj, rfl, rfl, ht, ht5⟩ := hrel
    have HT := hide ht
    clear ht
    by_cases hlt : j < n
    · obtain ⟨g, o, rfl, hg, hc⟩ := HP.out (by rw [← HN.out]; omega)
      obtain ⟨u, hx, hru⟩ := hc j (by rw [← HN.out]; exact hlt)
      have HS := hide (cells_snoc m j (by rw [← HN.out]; exact hlt))
      have HC1 := hide (HCM.out (j + 1) (by omega))
      obtain ⟨ua, uc, rfl, -, -⟩ := hru
      obtain ⟨k, hk⟩ : ∃ k, k = (m[j]'(by rw [← HN.out]; exact hlt)).length := ⟨_, rfl⟩
      rw [← hk] at hx HS
      have hk5 : t + k ≤ 25 := by have h1 := HS.out; have h2 := HC1.out; have h3 := HT.out; omega
      clear hc hk
      go_wp2
      go_round
      case rel => exact ⟨j + 1, t + k, by omega, by go_num, by go_num, by rw [HS.out, HT.out], hk5⟩
      case measure => simp [intOf]; omega
    · obtain rfl : j = n := by omega
      go_wp2_with fail
      refine (grow_nil t w (by omega)).mono ?_
      rintro e w1 ⟨u1, rfl, ho, hb⟩
      obtain ⟨xa, xc, rfl⟩ := own_slice ho
      have HO1 := hide ho; have HB1 := hide hb
      clear ho hb
      go_wp2
      go_loopw [6, 27] (fun s i w' => ∃ k : Nat, ∃ (q : Option Addr) (p cp : Nat), k ≤ j ∧ i = .int .i64 k ∧ s = .slice q p cp ∧ (p = (m.take k).flatten.length ∧ p ≤ 5 * k ∧ w'.ownsRow w.heap.size 3 1 (.slice q p cp) p (ints (m.take k).flatten)) ∧ Below w.heap.size w w') (fun _ i _ => j - (intOf i).toNat)
      case atStart => exact ⟨0, _, _, _, Nat.zero_le _, rfl, rfl, ⟨by simp, by simp, by simpa [ints] using HO1.out⟩, HB1.out⟩
      case round =>
        obtain ⟨k, q, p, cp, hk, rfl, rfl, ⟨hpl, hp5, hown⟩, hb⟩ := hrel
        have HPL := hide hpl; have HOW := hide hown; have HB2 := hide hb
        clear hpl hown hb
        by_cases hlk : k < j
        · obtain ⟨g, o, rfl, hg, hc⟩ := HP.out (by rw [← HN.out]; omega)
          have hkm : k < m.length := by rw [← HN.out]; exact hlk
          obtain ⟨u, hx, hru⟩ := hc k hkm
          have hx := below_cell HB2.out hg hx
          have hru := inRow_below hru HB2.out
          have HRR := hide (HR.out _ (List.getElem_mem hkm))
          have HTK := hide (show (m.take (k + 1)).flatten = (m.take k).flatten ++ m[k] by rw [List.take_succ_eq_append_getElem hkm, List.flatten_append, List.flatten_cons, List.flatten_nil, List.append_nil])
          obtain ⟨row, hrow⟩ : ∃ row, row = m[k] := ⟨_, rfl⟩
          rw [← hrow] at hru HRR HTK
          obtain ⟨ua, uc, rfl, -, hpp⟩ := hru
          obtain ⟨g2, o2, rfl, hg2, hc2⟩ := hpp.resolve_left (by have := HRR.out; omega)
          have HC2 := hide hc2
          have hbs : w.heap.size ≤ wr.heap.size := HB2.out.size
          have hr5 := HRR.out.2
          clear hc hrow hpp hc2
          go_wp2_with (at_builtin; (with_reducible refine wpList_appendRow 33 rfl HOW.out row g2 o2 uc (.int .i64 0) rfl _ _ rfl Try.underlying24 Try.infoInt rfl (by decide) rfl rfl HC2.out (by omega) hbs ?_); rintro v' w2 ho2 hb2 -; obtain ⟨ya, yc, rfl⟩ := own_slice ho2; have HO2 := hide ho2; have HB3 := hide (HB2.out.trans hb2); clear ho2 hb2)
          go_roundw
          case rel => exact ⟨k + 1, _, _, _, by omega, by go_num, rfl, ⟨by rw [HTK.out, List.length_append, HPL.out], by omega, by rw [HTK.out]; have := HO2.out; simpa [ints] using this⟩, HB3.out⟩
          case measure => simp [intOf]; omega
        · obtain rfl : k = j := by omega
          have HE := hide (show m.take k = m from List.take_of_length_le (by rw [← HN.out]; exact Nat.le_refl _))
          go_wp2
          go_ret
          have h1 := HPL.out
          have h2 := HOW.out
          rw [HE.out] at h1 h2
          subst h1
          exact ⟨_, rfl, h2, HB2.out⟩

set_option maxHeartbeats 400000 in
theorem countFixed_any (v : Value) (m : List (List Int)) (w : World) (hin : InMat w v m) (hn : m.length ≤ 5) (hr : ∀ q ∈ m, 0 < q.length ∧ q.length ≤ 5) :
    Calls Try.prog 57 #[v] w fun e w' => e = .returned (.int .i64 (atLeast 0 m.flatten : Nat)) ∧ Below w.heap.size w w' := by
  have HC := hide (concat_any v m w hin hn hr)
  have hfl : m.flatten.length ≤ 1000 := by
    have key : ∀ l : List (List Int), (∀ q ∈ l, q.length ≤ 5) → l.flatten.length ≤ 5 * l.length := by
      intro l
      induction l with
      | nil => intro _; simp
      | cons x l ih =>
        intro h
        have h3 := ih fun q hq => h q (List.mem_cons_of_mem _ hq)
        have h4 := h x (by simp)
        simp only [List.flatten_cons, List.length_append, List.length_cons]; omega
    have := key m fun q hq => (hr q hq).2
    omega
  obtain ⟨a, c, rfl, -, -⟩ := hin
  have HF := hide hfl
  generalize m.length = n at HC
  obtain ⟨fl, hfe⟩ : ∃ fl, fl = m.flatten := ⟨_, rfl⟩
  rw [← hfe] at HC HF ⊢
  clear hn hr hfl hfe
  go_enter Try.func57, Try.ntmps57
  go_wp2_with fail
  refine HC.out.mono ?_
  rintro e w1 ⟨u, rfl, ho, hb⟩
  have HB := hide hb; have HI := hide (inRow_own ho)
  clear ho hb
  go_wp2_with fail
  refine (countAtLeast_big u fl 0 w1 HI.out HF.out).mono ?_
  rintro e w2 ⟨rfl, rfl⟩
  go_wp2
  go_ret
  exact ⟨rfl, HB.out⟩
end Go.Proofs.Ytjgkblgilnfpfaa
