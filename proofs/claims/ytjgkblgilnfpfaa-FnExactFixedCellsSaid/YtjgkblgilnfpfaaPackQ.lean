/-
  Texts of this claim, one behind the other: FixI, FixSp, LawsFC.
-/
import Derived.Test.YtjgkblgilnfpfaaPackO
import Derived.Test.YtjgkblgilnfpfaaPackP
import Derived.Test.YtjgkblgilnfpfaaPackF
import Derived.Test.YtjgkblgilnfpfaaPackC
import Derived.Test.YtjgkblgilnfpfaaPackE
/-
  FixedCells of the program.
-/
namespace Go.Proofs.Ytjgkblgilnfpfaa
open Go.RowKit Go.Shelf
attribute [local go_sem] Oper.semAt_some

def cellI (m : List (List Int)) (y x : Nat) : Int := (m.getD y []).getD x 0
def fixF (f : Nat → Nat → Int) (ms : List (List (List Int))) : Nat → Nat → Int := ms.foldl (fun f m => frF f (cellI m)) f
theorem fixF_snoc (f : Nat → Nat → Int) (ms : List (List (List Int))) (m : List (List Int)) : fixF f (ms ++ [m]) = frF (fixF f ms) (cellI m) := by unfold fixF; rw [List.foldl_append]; rfl
theorem fixF_free (f : Nat → Nat → Int) (y x : Nat) : ∀ (ms : List (List (List Int))) , f y x = -1 → fixF f ms y x = -1
  | [], h => h
  | m :: ms, h => by
    show fixF (frF f (cellI m)) ms y x = -1
    refine fixF_free _ y x ms ?_
    unfold frF; rw [h]; split <;> rfl
theorem fixF_or (y x : Nat) : ∀ (ms : List (List (List Int))) (f : Nat → Nat → Int), fixF f ms y x = f y x ∨ fixF f ms y x = -1
  | [], _ => .inl rfl
  | m :: ms, f => by
    rcases fixF_or y x ms (frF f (cellI m)) with h | h
    · by_cases e : f y x = cellI m y x
      · exact .inl (by show fixF (frF f (cellI m)) ms y x = _; rw [h, frF, if_pos e])
      · exact .inr (by show fixF (frF f (cellI m)) ms y x = _; rw [h, frF, if_neg e])
    · exact .inr h
/-- The cells that all images with these sums agree in; -1 elsewhere. -/
def fixedIm (r c : List Int) : List (List Int) := if existsOf r c = true then mkM r.length c.length (fixF (cellI (imgL leastCh r c)) (allL r c)) else []
theorem mkM_cellI {R C : Nat} {m : List (List Int)} (h1 : m.length = R) (h2 : ∀ q ∈ m, q.length = C) : m = mkM R C (cellI m) := by
  apply List.ext_getElem
  · rw [mkM_len, h1]
  · intro y hy1 hy2
    rw [mkM_at]
    apply List.ext_getElem
    · rw [rowF_len, h2 _ (List.getElem_mem hy1)]
    · intro x hx1 hx2
      rw [rowF_at, cellI, List.getD_eq_getElem?_getD, List.getD_eq_getElem?_getD, List.getElem?_eq_getElem hy1, Option.getD_some, List.getElem?_eq_getElem hx1]; rfl
theorem mkM_ext {R C : Nat} {f g : Nat → Nat → Int} (h : ∀ y x, y < R → x < C → f y x = g y x) : mkM R C f = mkM R C g := by
  apply List.ext_getElem
  · simp [mkM]
  · intro y h1 h2
    rw [mkM_at, mkM_at]
    rw [mkM_len] at h1
    apply List.ext_getElem
    · simp [rowF_len]
    · intro x h3 h4
      rw [rowF_len] at h3
      rw [rowF_at, rowF_at]; exact h y x h1 h3
theorem all_free {R C : Nat} {f0 : Nat → Nat → Int} {pre t : List (List (List Int))} (h0 : ∀ y x, y < R → x < C → f0 y x = 0 ∨ f0 y x = 1) (h : atLeast 0 (mkM R C (fixF f0 pre)).flatten = 0) : mkM R C (fixF f0 (pre ++ t)) = mkM R C (fixF f0 pre) := by
  refine mkM_ext fun y x hy hx => ?_
  have hneg : fixF f0 pre y x < 0 := by
    rw [atLeast, List.countP_eq_zero] at h
    have hmem : fixF f0 pre y x ∈ (mkM R C (fixF f0 pre)).flatten := by
      rw [List.mem_flatten]
      have hy' : y < (mkM R C (fixF f0 pre)).length := by rw [mkM_len]; exact hy
      have hx' : x < ((mkM R C (fixF f0 pre))[y]).length := by rw [mkM_at, rowF_len]; exact hx
      refine ⟨_, List.getElem_mem hy', ?_⟩
      have := List.getElem_mem hx'
      have e : ((mkM R C (fixF f0 pre))[y])[x] = fixF f0 pre y x := by simp [mkM_at, rowF_at]
      rw [e] at this; exact this
    have := h _ hmem
    simp only [decide_eq_true_eq] at this
    omega
  have hfree : fixF f0 pre y x = -1 := by
    rcases fixF_or y x pre f0 with e | e
    · rcases h0 y x hy hx with e2 | e2 <;> omega
    · exact e
  rw [hfree]
  unfold fixF
  rw [List.foldl_append]
  exact fixF_free _ y x t hfree
theorem least_cells {r c : List Int} (h : existsOf r c = true) : imgL leastCh r c = mkM r.length c.length (cellI (imgL leastCh r c)) ∧ ∀ y x, y < r.length → x < c.length → cellI (imgL leastCh r c) y x = 0 ∨ cellI (imgL leastCh r c) y x = 1 := by
  obtain ⟨hr, hc, -⟩ := sumsOk_yes (existsOf_sums h)
  obtain ⟨l, hl⟩ := all_first r c hr.2 hc (img_of_exists h)
  obtain ⟨h1, h2, h3⟩ := all_sound r c hr.2 hc (img_of_exists h) (imgL leastCh r c) (by rw [hl]; simp)
  refine ⟨mkM_cellI h1 h2, fun y x hy hx => ?_⟩
  exact h3.1 y x hy hx

/-- What is known while images are looked at: the box q, the cells in it. -/
def FixSt (lo q R C : Nat) (v : Value) (f0 : Nat → Nat → Int) (pre : List (List (List Int))) (A : Nat → Prop) (W : World) : Prop :=
  ((∀ k, A k ↔ lo ≤ k ∧ k ≤ q) ∧ lo ≤ q) ∧ Boxed W q 23 v ∧ OwnMat W lo q v (mkM R C (fixF f0 pre))
theorem fixSt_abid {lo q R C B : Nat} {v : Value} {f0 : Nat → Nat → Int} : AbidF B (FixSt lo q R C v f0) := by
  rintro pre A W W' ⟨⟨h1, h0⟩, h2, vs, g1, g2, g3, g4⟩ - - - - hk
  have hkk : ∀ k, k < W.heap.size → lo ≤ k → k ≤ q → W'.heap[k]? = W.heap[k]? := fun k h3 h4 h5 => hk k h3 (.inr ((h1 k).2 ⟨h4, h5⟩))
  exact ⟨⟨h1, h0⟩, (hkk q h2.lt h0 (Nat.le_refl _)).trans h2, vs, own_agr g1 fun k he => hkk k (g1.lt k he).2 (g1.lt k he).1 (Nat.le_of_lt (g2 k he)), g2, fun i hi => ⟨own_agr (g3 i hi).1 fun k he => hkk k ((g3 i hi).1.lt k he).2 ((g3 i hi).1.lt k he).1 (Nat.le_of_lt ((g3 i hi).2 k he)), (g3 i hi).2⟩, g4⟩

set_option maxRecDepth 100000 in
set_option maxHeartbeats 2000000 in
theorem implFixed_yes (va vb : Value) (r c : List Int) (w : World) (ha : RowC w va r) (hb : RowC w vb c) (h : existsOf r c = true) :
    Calls Try.prog 26 #[va, vb] w (MatRes (fixedIm r c) w) := by
  refine (callsIn_wide (n := 0)).1 ?_
  have HLI := hide (implLeast_any va vb r c w ha hb)
  rw [if_pos h, h] at HLI
  obtain ⟨hr5, hc5, -⟩ := sumsOk_yes (existsOf_sums h)
  obtain ⟨hlm, h01⟩ := least_cells h
  obtain ⟨f0, hf0⟩ : ∃ f0, f0 = cellI (imgL leastCh r c) := ⟨_, rfl⟩
  rw [hlm, ← hf0] at HLI
  have HANS := hide (show fixedIm r c = mkM r.length c.length (fixF f0 (allL r c)) by unfold fixedIm; rw [if_pos h, hf0])
  rw [← hf0] at h01
  have HS := hide (existsOf_sums h)
  have HIMG := hide fun m (hm : m ∈ allL r c) => all_sound r c hr5.2 hc5 (img_of_exists h) m hm
  have H01 := hide h01
  have HA := hide ha; have HB := hide hb.1
  obtain ⟨xa, ca, hva, -, -⟩ := ha.1
  obtain ⟨xb, cb, hvb, -, -⟩ := hb.1
  subst hva hvb
  have HIW := hide fun w' (hw : Below w.heap.size w w') => imagesWith_any _ _ r c w' (rowC_below HA.out hw) (inRow_below HB.out hw)
  obtain ⟨R, hR⟩ : ∃ R, R = r.length := ⟨_, rfl⟩
  obtain ⟨C, hCC⟩ : ∃ C, C = c.length := ⟨_, rfl⟩
  rw [← hR] at HA HLI HIW hr5 HANS HIMG H01 ⊢
  rw [← hCC] at HB HLI HIW hc5 HANS HIMG H01 ⊢
  rw [HANS.out]
  have HRC := hide (And.intro hr5 hc5)
  clear h ha hb hR hCC hlm h01 hf0 hr5 hc5
  refine callsIn_of_wp_marks Try.func26 rfl trivial ?_ rfl
  simp only [Try.ntmps26, List.size_toArray, List.length_cons, List.length_nil, Nat.reduceAdd, Nat.reduceSub, Array.replicate_succ, Array.replicate_zero, List.push_toArray, List.append_toArray, List.nil_append, List.cons_append]
  gi_wp2_with fail
  refine ⟨trivial, rfl, (callsIn_wide (n := 0)).2 (HLI.out.mono ?_)⟩
  rintro e w1 ⟨v, rfl, hown, hb1⟩
  obtain ⟨gv, cv, rfl⟩ := ownMat_some hown (by rw [mkM_len]; have := HRC.out; omega)
  rw [mkM_len] at hown ⊢
  have B1 := hide hb1
  have HOW := hide hown
  clear hown hb1
  gi_wp2_with fail
  obtain ⟨w2, hw2⟩ : ∃ w2, w2 = w1.alloc (.cells #[.slice (some ⟨gv, 0, none⟩) R cv] 23) := ⟨_, rfl⟩
  rw [← hw2]
  have HBX := hide (show Boxed w2 w1.heap.size 23 (.slice (some ⟨gv, 0, none⟩) R cv) by rw [hw2]; exact Boxed.new _ _ _)
  have hb12 : Below w1.heap.size w1 w2 := by rw [hw2]; exact (Below.refl _ w1).alloc (Nat.le_refl _) _
  have B2 := hide (B1.out.trans (hb12.mono B1.out.size))
  have HOW2 := hide (ownMat_below HOW.out hb12)
  have HS2 := hide (show w2.heap.size = w1.heap.size + 1 by rw [hw2]; simp)
  clear hw2 hb12
  refine ⟨trivial, rfl, (callsIn_wide (n := 0)).2 ((HIW.out w2 B2.out).mono ?_)⟩
  rintro e w3 ⟨rfl, hx1, hx2, hx3, hb3, hs3⟩
  have B3 := hide (B2.out.trans (hb3.mono B2.out.size))
  have HX := hide (And.intro hx1 (And.intro hx2 hx3))
  have HS3 := hide hs3
  have HST := hide (show FixSt w.heap.size w1.heap.size R C (.slice (some ⟨gv, 0, none⟩) R cv) f0 [] (fun k => w.heap.size ≤ k ∧ k ≤ w1.heap.size) w3 from ⟨⟨fun k => Iff.rfl, B1.out.size⟩, (hb3.block _ HBX.out.lt).trans HBX.out, ownMat_below HOW2.out hb3⟩)
  clear hx1 hx2 hx3 hb3 hs3
  gi_wp2_with fail
  refine wp_rangeEach (gf := 101) (lb := #[.pointer (some ⟨w2.heap.size, 0, none⟩), .pointer (some ⟨w2.heap.size + 2, 0, none⟩), .pointer (some ⟨w2.heap.size + 1, 0, none⟩)]) rfl (enters_of Try.func101 (by kernel_rfl) rfl)
    (L := allL r c) (Val := ValM) (fun v m lo G W W' h1 _ h3 => valM_agr h1 h3) (fun k => w.heap.size ≤ k ∧ k ≤ w1.heap.size) (fun k hk => by have h1 := HS2.out; have h2 := HS3.out; omega) (fun W4 hb4 hs4 => ?seq) rfl
    (FixSt w.heap.size w1.heap.size R C (.slice (some ⟨gv, 0, none⟩) R cv) f0)
    (fun cc pre A W => cc = .exit 0 ∧ FixSt w.heap.size w1.heap.size R C (.slice (some ⟨gv, 0, none⟩) R cv) f0 pre A W ∧ atLeast 0 (mkM R C (fixF f0 pre)).flatten = 0 ∧ Below w.heap.size w W) fixSt_abid (fun cc => ?hIx) (fun pre A W h k hk => by have h1 := h.2.1.lt; have h2 := ((h.1.1 k).1 hk).2; omega) HST.out
    (fun x => { tmps := #[.slice xa R ca, .slice xb C cb, undef, undef, .slice none 0 0, .pointer (some ⟨w1.heap.size, 0, none⟩), .bool true, x, .tuple #[.slice (some ⟨gv, 0, none⟩) R cv, .bool true], .slice xa R ca, .slice xb C cb, .tuple #[.slice (some ⟨gv, 0, none⟩) R cv, .bool true], .slice (some ⟨gv, 0, none⟩) R cv, .bool true, .bool true, .bool false, .slice xa R ca, .slice xb C cb, .func (.func 101) #[] #[.pointer (some ⟨w2.heap.size, 0, none⟩), .pointer (some ⟨w2.heap.size + 2, 0, none⟩), .pointer (some ⟨w2.heap.size + 1, 0, none⟩)], x, undef, undef, undef, undef, undef, undef, undef], defers := [] }) ?assign ?body ?done ?stop
  case seq =>
    have h1 := HS2.out; have h2 := HS3.out
    refine iter_start HA.out HB.out HS.out (B3.out.trans (hb4.mono B3.out.size)) (fun k hk => ⟨hk.1, by omega⟩) (below_cell hb4 (by omega) HX.out.1) (below_cell hb4 (by omega) HX.out.2.1) (below_cell hb4 (by omega) HX.out.2.2) (by omega) (by omega) (by omega)
  case hIx => exact fun s A W W' h ho ht hp hs hk => ⟨h.1, fixSt_abid s A W W' h.2.1 ho ht hp hs hk, h.2.2.1, ⟨ho.trans h.2.2.2.os, ht.trans h.2.2.2.tape, hp.trans h.2.2.2.output, Nat.le_trans h.2.2.2.size hs, fun k hk2 => by rw [hk k (Nat.lt_of_lt_of_le hk2 h.2.2.2.size) (.inl (Nat.lt_of_lt_of_le hk2 B3.out.size))]; exact h.2.2.2.block k hk2⟩⟩
  case assign =>
    intro l2 x m lo G W K hv hK
    obtain ⟨ax, nx, cx, rfl⟩ : ∃ a n c, x = .slice a n c := by obtain ⟨vs, ⟨hv, -⟩, -⟩ := hv; obtain ⟨a, c, h⟩ := own_slice hv; exact ⟨a, _, c, h⟩
    clear hv
    gi_wp2
    exact hK
  case body =>
    intro l2 pre A m x lo G W hi hst hpre hval hlo hlo1 hAlo hG
    obtain ⟨ax, nx, cx, rfl⟩ : ∃ a n c, x = .slice a n c := by obtain ⟨vs, ⟨hv, -⟩, -⟩ := id hval; obtain ⟨a, c, h⟩ := own_slice hv; exact ⟨a, _, c, h⟩
    have hq := hAlo w1.heap.size ((hi.1.1 _).2 ⟨hi.1.2, Nat.le_refl _⟩)
    obtain ⟨hm1, hm2, -⟩ := HIMG.out m (hpre.subset (List.mem_append_right _ (List.mem_singleton_self m)))
    have hmo := valM_own hval fun k hk => (hG k hk).2
    rw [mkM_cellI hm1 hm2] at hmo
    have HFW := hide (freeWhere_any (.slice (some ⟨gv, 0, none⟩) R cv) (.slice ax nx cx) R C w.heap.size w1.heap.size lo W.heap.size (fixF f0 pre) (cellI m) W HRC.out.1 HRC.out.2 hi.2.2 hmo (.inl (by omega)))
    rw [← fixF_snoc] at HFW
    have HIFF := hide hi.1
    have HBW0 := hide (below_itStep B3.out (fun k hk => hk.1) hst)
    have HBW := hide hi.2.1
    have hcu := hi.2.1.cell
    have hwq : w1.heap.size < W.heap.size := hi.2.1.lt
    clear hi hst hpre hval hlo hlo1 hAlo hG hm1 hm2 hmo hq
    gi_wp2_with fail
    refine ⟨trivial, rfl, (show CallsIn Fence.wide 0 _ _ _ _ _ from (callsIn_wide (n := 0)).2 (HFW.out.mono ?_))⟩
    rintro e W2 ⟨⟨u, rfl⟩, ho2, hw2⟩
    have HW2 := hide hw2
    have HB2 := hide (show Boxed W2 w1.heap.size 23 (.slice (some ⟨gv, 0, none⟩) R cv) from (hw2.block _ HBW.out.lt (.inr (Nat.le_refl _))).trans HBW.out)
    have HO2 := hide ho2
    have hcu2 := HB2.out.cell
    have HCF := hide (countFixed_any (.slice (some ⟨gv, 0, none⟩) R cv) (mkM R C (fixF f0 (pre ++ [m]))) W2 (inMat_own ho2) (by rw [mkM_len]; exact HRC.out.1.2) (fun q hq => by
      obtain ⟨y, hy, rfl⟩ := List.getElem_of_mem hq
      rw [mkM_at, rowF_len]; have := HRC.out; omega))
    clear ho2 hw2 hcu
    gi_wp2_with fail
    refine ⟨trivial, rfl, (show CallsIn Fence.wide 0 _ _ _ _ _ from (callsIn_wide (n := 0)).2 (HCF.out.mono ?_))⟩
    rintro e W3 ⟨rfl, hb3⟩
    have HB3 := hide hb3
    have HST3 := hide (show FixSt w.heap.size w1.heap.size R C (.slice (some ⟨gv, 0, none⟩) R cv) f0 (pre ++ [m]) A W3 from ⟨HIFF.out, (hb3.block _ HB2.out.lt).trans HB2.out, ownMat_below HO2.out hb3⟩)
    have HGV := hide (show ItOnly A W W3 from ⟨hb3.os.trans HW2.out.os, hb3.tape.trans HW2.out.tape, hb3.output.trans HW2.out.output, Nat.le_trans HW2.out.size hb3.size, fun k hk hn => by
      rw [hb3.block k (Nat.lt_of_lt_of_le hk HW2.out.size)]
      exact HW2.out.block k hk (by
        by_cases h : k < w.heap.size
        · exact .inl h
        · exact .inr (Nat.le_of_not_lt fun h2 => hn ((HIFF.out.1 k).2 ⟨by omega, by omega⟩)))⟩)
    clear hb3 hcu2
    by_cases hz : atLeast 0 (mkM R C (fixF f0 (pre ++ [m]))).flatten = 0
    · have HZ := hide hz
      rw [hz]
      clear hz
      gi_wp2
      have hb0 : Below w.heap.size w W3 := ⟨HGV.out.os.trans HBW0.out.os, HGV.out.tape.trans HBW0.out.tape, HGV.out.output.trans HBW0.out.output, Nat.le_trans HBW0.out.size HGV.out.size, fun k hk => by rw [HGV.out.block k (Nat.lt_of_lt_of_le hk HBW0.out.size) (fun ha => by have := (HIFF.out.1 k).1 ha; omega)]; exact HBW0.out.block k hk⟩
      exact ⟨A, ⟨rfl, HST3.out, HZ.out, hb0⟩, HGV.out.size, fun k hk1 hk2 hn => HGV.out.block k hk2 hn, fun k hk => .inl hk⟩
    · obtain ⟨z, hzz⟩ : ∃ z, z = atLeast 0 (mkM R C (fixF f0 (pre ++ [m]))).flatten := ⟨_, rfl⟩
      rw [← hzz] at hz ⊢
      have hz2 : ((z : Int) == 0) = false := by simp; omega
      clear hzz
      gi_wp2
      exact ⟨A, HST3.out, HGV.out, fun k hk => .inl hk⟩
  case done =>
    intro A W hi hst _ hmk
    have hcu := hi.2.1.cell
    have HMK := hide hmk
    have HOW9 := hide hi.2.2
    have HBB := hide (below_itStep B3.out (fun k hk => hk.1) hst)
    have hsz : w1.heap.size < W.heap.size := hi.2.1.lt
    clear hi hst hmk
    gi_wp2
    refine ⟨by simp, .inl ⟨_, _, rfl, run_takeDeferred HMK.out, ?_⟩⟩
    exact ⟨_, results_tmp rfl _ _ _, _, rfl, ownMat_mono (ownMat_putObj _ HOW9.out HMK.out rfl) (Nat.le_refl _) (by simp; omega), below_putObj HBB.out B3.out.size _⟩
  case stop =>
    rintro cc pre A W ⟨t, ht⟩ ⟨rfl, hi, hz, hb0⟩ hA3 hmk
    have hcu := hi.2.1.cell
    have HMK := hide hmk
    have hall := all_free (t := t) H01.out hz
    rw [ht] at hall
    have HOW9 := hide (show OwnMat W w.heap.size w1.heap.size (.slice (some ⟨gv, 0, none⟩) R cv) (mkM R C (fixF f0 (allL r c))) by rw [hall]; exact hi.2.2)
    have HBB := hide hb0
    have hsz : w1.heap.size < W.heap.size := hi.2.1.lt
    clear hi hz hb0 hA3 hmk hall ht
    gi_wp2
    refine ⟨by simp, .inl ⟨_, _, rfl, run_takeDeferred HMK.out, ?_⟩⟩
    exact ⟨_, results_tmp rfl _ _ _, _, rfl, ownMat_mono (ownMat_putObj _ HOW9.out HMK.out rfl) (Nat.le_refl _) (by simp; omega), below_putObj HBB.out B3.out.size _⟩

set_option maxHeartbeats 400000 in
theorem implFixed_any (va vb : Value) (r c : List Int) (w : World) (ha : RowC w va r) (hb : RowC w vb c) :
    Calls Try.prog 26 #[va, vb] w (MatRes (fixedIm r c) w) := by
  cases h : existsOf r c with
  | true => exact implFixed_yes va vb r c w ha hb h
  | false =>
    have HLI := hide (implLeast_any va vb r c w ha hb)
    rw [h, if_neg (by decide)] at HLI
    rw [fixedIm, if_neg (by rw [h]; decide)]
    clear h
    refine (callsIn_wide (n := 0)).1 ?_
    refine callsIn_of_wp_marks Try.func26 rfl trivial ?_ rfl
    simp only [Try.ntmps26, List.size_toArray, List.length_cons, List.length_nil, Nat.reduceAdd, Nat.reduceSub, Array.replicate_succ, Array.replicate_zero, List.push_toArray, List.append_toArray, List.nil_append, List.cons_append]
    gi_wp2_with fail
    refine ⟨trivial, rfl, (callsIn_wide (n := 0)).2 (HLI.out.mono ?_)⟩
    rintro e w1 ⟨v, rfl, hown, hb1⟩
    obtain ⟨av, cv, rfl⟩ : ∃ a cp, v = .slice a 0 cp := by obtain ⟨vs, hv, -⟩ := hown; exact own_slice hv
    have B1 := hide hb1
    clear hown hb1
    gi_wp2
    exact ⟨_, results_tmp rfl _ _ _, _, rfl, ownMat_nil _ _ _, B1.out.alloc B1.out.size _⟩
end Go.Proofs.Ytjgkblgilnfpfaa
/-
  FixedCells of the model.
-/
namespace Go.Proofs.Ytjgkblgilnfpfaa
open Go.RowKit

set_option maxRecDepth 100000 in
set_option maxHeartbeats 2000000 in
theorem specFixed_yes (va vb : Value) (r c : List Int) (w : World) (ha : RowC w va r) (hb : RowC w vb c) (h : existsOf r c = true) :
    Calls Try.prog 25 #[va, vb] w (MatRes (fixedIm r c) w) := by
  have HA := hide ha.1; have HB := hide hb.1; have H := hide h
  have HALL := hide fun (w' : World) (hw : Below w.heap.size w w') => specAll_start r c va vb w w' ha hb.1 h hw
  obtain ⟨hr5, hc5, -⟩ := sumsOk_yes (existsOf_sums h)
  obtain ⟨l, hl⟩ := all_first r c hr5.2 hc5 (img_of_exists h)
  obtain ⟨f0, hf0⟩ : ∃ f0, f0 = cellI (imgL leastCh r c) := ⟨_, rfl⟩
  have HIMG := hide fun m (hm : m ∈ allL r c) => (fun (q : _) => mkM_cellI (R := r.length) (C := c.length) q.1 q.2.1) (all_sound r c hr5.2 hc5 (img_of_exists h) m hm)
  have HLM := hide (least_cells h).1
  have HLEN := hide (show (allL r c).length ≤ 100000 by rw [← allIm_sums (existsOf_sums h)]; exact allIm_len r c)
  rw [← hf0] at HLM
  have HFI := hide (show fixedIm r c = mkM r.length c.length (fixF f0 (allL r c)) by unfold fixedIm; rw [if_pos h, hf0])
  rw [HFI.out]
  obtain ⟨xa, ca, hva, -, -⟩ := ha.1
  obtain ⟨xb, cb, hvb, -, -⟩ := hb.1
  subst hva hvb
  have HL0 := hide (show (allL r c).getD 0 [] = mkM r.length c.length f0 by rw [hl]; exact HLM.out)
  have hpos : 0 < (allL r c).length := by rw [hl]; simp
  obtain ⟨L, hL⟩ : ∃ L, L = allL r c := ⟨_, rfl⟩
  rw [← hL] at HALL HIMG HLEN HL0 hpos ⊢
  obtain ⟨R, hR⟩ : ∃ R, R = r.length := ⟨_, rfl⟩
  obtain ⟨C, hCC⟩ : ∃ C, C = c.length := ⟨_, rfl⟩
  rw [← hR] at HA HALL HIMG HL0 hr5 ⊢
  rw [← hCC] at HB HALL HIMG HL0 hc5 ⊢
  have HRC := hide (And.intro hr5 hc5)
  obtain ⟨n, hn⟩ : ∃ n, n = L.length := ⟨_, rfl⟩
  have HN := hide hn
  rw [← hn] at HLEN hpos
  have hn6 := HLEN.out
  clear ha hb h hl hf0 hL hR hCC hr5 hc5 hn
  go_enter Try.func25, Try.ntmps25
  go_wp2_with ((with_reducible refine (specExists_any _ _ r c _ HA.out HB.out).mono ?_); rw [H.out]; rintro e w1 ⟨rfl, b1⟩; have B1 := hide b1; clear b1)
  refine (HALL.out _ B1.out).mono ?_
  rintro e w2 ⟨u, rfl, hims, hb2⟩
  have hu := ownU_imgs hims
  rw [← HN.out] at hu
  obtain ⟨us, hv, hvh, hmm⟩ := id hu
  obtain ⟨g, cap, rfl, -, -, -, -, -, -⟩ := own_some hv (by omega)
  have hx := cell_held hv (show 0 < n by omega)
  have hm0 : OwnMat w2 w.heap.size w2.heap.size (us.getD 0 undef) (L.getD 0 []) := hmm 0 hpos
  rw [HL0.out] at hm0
  obtain ⟨u0, hu0⟩ : ∃ u0, u0 = us.getD 0 undef := ⟨_, rfl⟩
  rw [← hu0] at hx hm0
  obtain ⟨g0, cap0, rfl⟩ := ownMat_some hm0 (by rw [mkM_len]; have := HRC.out; omega)
  have HM0 := hide hm0
  have HB2 := hide hb2
  have HU2 := hide hu
  clear hims hu hv hvh hmm hm0 hu0 hb2
  rw [mkM_len] at hx HM0
  go_wp2_with fail
  refine (copyRows_any _ (mkM R C f0) w.heap.size w2 (matT_own HM0.out) (by rw [mkM_len]; have := HRC.out; omega) (fun q hq => by
      obtain ⟨y, hy, rfl⟩ := List.getElem_of_mem hq
      rw [mkM_at, rowF_len]; have := HRC.out; omega)).mono ?_
  rintro e w3 ⟨vo, rfl, ho, hb3⟩
  obtain ⟨go, co, rfl⟩ := ownMat_some ho (by rw [mkM_len]; have := HRC.out; omega)
  rw [mkM_len] at ho ⊢
  have HO := hide ho
  have HU3 := hide (ownU_below HU2.out hb3)
  have HB3 := hide (HB2.out.trans (hb3.mono HB2.out.size))
  have HS3 := hide (And.intro HB2.out.size hb3.size)
  clear ho hb3 hx
  have HU := hide (show OwnU w3 w.heap.size w2.heap.size (.slice (some ⟨g, 0, none⟩) n cap) n (fun i => L.getD i []) from HU3.out)
  go_wp2
  go_loopw [26] (fun i w' => ∃ t : Nat, t ≤ n ∧ i = .int .i64 t ∧ OwnMat w' w2.heap.size w3.heap.size (.slice (some ⟨go, 0, none⟩) R co) (mkM R C (fixF f0 (L.take t))) ∧ OwnU w' w.heap.size w2.heap.size (.slice (some ⟨g, 0, none⟩) n cap) n (fun i => L.getD i []) ∧ Within w2.heap.size w3.heap.size w3 w') (fun i _ => n - (intOf i).toNat)
  case atStart => exact ⟨0, Nat.zero_le _, rfl, HO.out, HU.out, within_refl _ _ _⟩
  case round =>
    obtain ⟨t, ht, rfl, hv, hu, hw⟩ := hrel
    by_cases hltt : t < n
    · obtain ⟨us, hus, hush, hmm⟩ := id hu
      have hxi := cell_held hus hltt
      have hLt : t < L.length := by rw [← HN.out]; exact hltt
      obtain ⟨m, hm⟩ : ∃ m, m = L[t] := ⟨_, rfl⟩
      have hgd : L.getD t [] = m := by rw [List.getD_eq_getElem?_getD, List.getElem?_eq_getElem hLt, hm]; rfl
      have hme : m = mkM R C (cellI m) := HIMG.out m (by rw [hm]; exact List.getElem_mem hLt)
      have HSN := hide (show fixF f0 (L.take (t + 1)) = frF (fixF f0 (L.take t)) (cellI m) by rw [List.take_succ_eq_append_getElem hLt, ← hm, fixF_snoc])
      have hmt : OwnMat wr w.heap.size w2.heap.size (us.getD t undef) (mkM R C (cellI m)) := by
        have : OwnMat wr w.heap.size w2.heap.size (us.getD t undef) (L.getD t []) := hmm t hltt
        rw [hgd] at this; rw [← hme]; exact this
      obtain ⟨ut, hut⟩ : ∃ ut, ut = us.getD t undef := ⟨_, rfl⟩
      rw [← hut] at hxi hmt
      obtain ⟨gb, cb2, rfl⟩ := ownMat_some hmt (by rw [mkM_len]; have := HRC.out; omega)
      rw [mkM_len] at hmt hxi
      obtain ⟨f, hf⟩ : ∃ f, f = fixF f0 (L.take t) := ⟨_, rfl⟩
      obtain ⟨gf, hgf⟩ : ∃ gf, gf = cellI m := ⟨_, rfl⟩
      rw [← hf] at hv HSN
      rw [← hgf] at hmt HSN
      have HV := hide (show OwnMat wr w2.heap.size w3.heap.size (.slice (some ⟨go, 0, none⟩) R co) (mkM R C (frP f gf 0 0)) by rw [frP_zero]; exact hv)
      have HMT := hide hmt; have HUU := hide hu; have HW0 := hide hw
      obtain ⟨⟨hR1, hR5⟩, hC1, hC5⟩ := HRC.out
      clear hv hu hw hus hush hmm hLt hm hgd hme hmt hut hf hgf
      go_wp2
      clear hxi
      go_loopw [32] (fun i w' => ∃ y : Nat, y ≤ R ∧ i = .int .i64 y ∧ OwnMat w' w2.heap.size w3.heap.size (.slice (some ⟨go, 0, none⟩) R co) (mkM R C (frP f gf y 0)) ∧ (OwnMat w' w.heap.size w2.heap.size (.slice (some ⟨gb, 0, none⟩) R cb2) (mkM R C gf) ∧ OwnU w' w.heap.size w2.heap.size (.slice (some ⟨g, 0, none⟩) n cap) n (fun i => L.getD i [])) ∧ Within w2.heap.size w3.heap.size w3 w') (fun i _ => R - (intOf i).toNat)
      case atStart => exact ⟨0, Nat.zero_le _, rfl, HV.out, ⟨HMT.out, HUU.out⟩, HW0.out⟩
      case round =>
        obtain ⟨y, hy, rfl, hv, hm, hw⟩ := hrel
        have HV1 := hide hv; have HM1 := hide hm; have HW1 := hide hw
        clear hv hm hw
        by_cases hlt : y < R
        · obtain ⟨g2, c2, hrow2, -, -, -, -, -⟩ := ownMat_cell HM1.out.1 y 0 hlt (by omega)
          have HR2 := hide hrow2
          go_wp2
          clear hrow2
          go_loopw [39] (fun i w' => ∃ x : Nat, x ≤ C ∧ i = .int .i64 x ∧ OwnMat w' w2.heap.size w3.heap.size (.slice (some ⟨go, 0, none⟩) R co) (mkM R C (frP f gf y x)) ∧ ((OwnMat w' w.heap.size w2.heap.size (.slice (some ⟨gb, 0, none⟩) R cb2) (mkM R C gf) ∧ OwnU w' w.heap.size w2.heap.size (.slice (some ⟨g, 0, none⟩) n cap) n (fun i => L.getD i [])) ∧ w'.cell? ⟨gb, y, none⟩ = some (.slice (some ⟨g2, 0, none⟩) C c2)) ∧ Within w2.heap.size w3.heap.size w3 w') (fun i _ => C - (intOf i).toNat)
          case atStart => exact ⟨0, Nat.zero_le _, rfl, HV1.out, ⟨HM1.out, HR2.out⟩, HW1.out⟩
          case round =>
            obtain ⟨x, hx, rfl, hv, hm, hw⟩ := hrel
            by_cases hlx : x < C
            · obtain ⟨g1, c1, hrow1, hcl1, hfr1, hlo1, hhi1, hset1⟩ := ownMat_cell hv y x hlt hlx
              obtain ⟨g3, c3', hrow3, hcl3, -, hlo3, hhi3, -⟩ := ownMat_cell hm.1.1 y x hlt hlx
              obtain ⟨rfl, rfl⟩ : g3 = g2 ∧ c3' = c2 := by have := hm.2; rw [hrow3] at this; cases this; exact ⟨rfl, rfl⟩
              rw [frP_at] at hcl1
              have HV2 := hide hv; have HM2 := hide hm; have HW2 := hide hw; have HSET := hide hset1
              obtain ⟨p, hp⟩ : ∃ p, p = f y x := ⟨_, rfl⟩
              obtain ⟨q, hq⟩ : ∃ q, q = gf y x := ⟨_, rfl⟩
              have HP := hide hp; have HQ := hide hq
              rw [← hp] at hcl1
              rw [← hq] at hcl3
              clear hv hm hw hset1 hp hq
              by_cases e : p = q
              · have hne : (p != q) = false := by rw [e]; simp
                have HE := hide e
                clear e
                go_wp2
                go_roundw
                case rel => exact ⟨x + 1, by omega, by go_num, by rw [← frP_same (by rw [← HP.out, ← HQ.out]; exact HE.out)]; exact HV2.out, HM2.out, HW2.out⟩
                case measure => simp [intOf]; omega
              · have hne : (p != q) = true := bne_iff_ne.2 e
                have HE := hide e
                clear e
                go_wp2
                go_roundw
                case rel =>
                  have hwi : Within w2.heap.size w3.heap.size wr (wr.setCell ⟨g1, x, none⟩ (.int .i64 (-1))) := ⟨rfl, rfl, rfl, by simp [World.setCell], fun k _ ho => Below.heap_setCell _ _ _ _ (show k ≠ g1 by omega)⟩
                  refine ⟨x + 1, by omega, by go_num, by rw [← frP_put (by rw [← HP.out, ← HQ.out]; exact HE.out)]; exact HSET.out (-1), ⟨⟨ownMat_within HM2.out.1.1 hwi (.inl (Nat.le_refl _)), ownU_within HM2.out.1.2 hwi (.inl (Nat.le_refl _))⟩, ?_⟩, within_trans HW2.out hwi⟩
                  have hgb : gb < w2.heap.size := by
                    obtain ⟨us, h1, h2, -⟩ := HM2.out.1.1
                    exact h2 gb rfl
                  exact (World.cell?_of_block (Below.heap_setCell _ _ _ _ (show gb ≠ g1 by omega))).trans HM2.out.2
                case measure => simp [intOf]; omega
            · obtain rfl : x = C := by omega
              have HV2 := hide hv; have HM2 := hide hm; have HW2 := hide hw
              clear hv hm hw
              go_wp2
              go_roundw
              case rel => exact ⟨y + 1, by omega, by go_num, by rw [← frP_row]; exact HV2.out, HM2.out.1, HW2.out⟩
              case measure => simp [intOf]; omega
        · obtain rfl : y = R := by omega
          go_wp2
          go_roundw
          case rel => exact ⟨t + 1, by omega, by go_num, by rw [HSN.out, ← frP_all]; exact HV1.out, HM1.out.2, HW1.out⟩
          case measure => simp [intOf]; omega
    · obtain rfl : t = n := by omega
      have HE := hide (show L.take t = L from List.take_of_length_le (by rw [← HN.out]; exact Nat.le_refl _))
      have HV := hide hv; have HW0 := hide hw
      clear hv hu hw
      go_wp2
      go_ret
      have h1 := HV.out
      rw [HE.out] at h1
      have hs1 := HS3.out
      exact ⟨_, rfl, ownMat_mono h1 hs1.1 HW0.out.size, HB3.out.trans (below_within HW0.out hs1.1 HB3.out.size)⟩
set_option maxHeartbeats 400000 in
theorem specFixed_any (va vb : Value) (r c : List Int) (w : World) (ha : RowC w va r) (hb : RowC w vb c) :
    Calls Try.prog 25 #[va, vb] w (MatRes (fixedIm r c) w) := by
  cases h : existsOf r c with
  | true => exact specFixed_yes va vb r c w ha hb h
  | false =>
    have HA := hide ha.1; have HB := hide hb.1; have H := hide h
    rw [fixedIm, if_neg (by rw [h]; decide)]
    clear ha hb h
    go_enter Try.func25, Try.ntmps25
    go_wp2_with ((with_reducible refine (specExists_any va vb r c _ HA.out HB.out).mono ?_); rw [H.out]; rintro e w1 ⟨rfl, b1⟩; have B1 := hide b1; clear b1)
    go_ret
    exact ⟨_, rfl, ownMat_nil _ _ _, B1.out⟩
end Go.Proofs.Ytjgkblgilnfpfaa
/-
  The exact law on FixedCells, walked.
-/
namespace Go.Proofs.Ytjgkblgilnfpfaa
open Go.RowKit
set_option linter.unusedVariables false

set_option maxRecDepth 100000 in
set_option maxHeartbeats 2000000 in
theorem lawFixedCells_gen (a0 : Option Addr) (n0 c0 : Nat) (r0 : List Int) (a1 : Option Addr) (n1 c1 : Nat) (r1 : List Int) (w : World) (hin0 : InRow w (.slice a0 n0 c0) r0) (hin1 : InRow w (.slice a1 n1 c1) r1) (rows : List (List Int)) (hrows : rows.length + cellsM rows ≤ 1000000)
    (hs : ∀ (v0 : Value) (v1 : Value) (w : World), RowC w v0 r0 → RowC w v1 r1 → Calls Try.prog 25 #[v0, v1] w (MatRes rows w))
    (hi : ∀ (v0 : Value) (v1 : Value) (w : World), RowC w v0 r0 → RowC w v1 r1 → Calls Try.prog 26 #[v0, v1] w (MatRes rows w)) :
    Calls Try.prog 6 #[.slice a0 n0 c0, .slice a1 n1 c1] w fun e w' => e = .returned (.bool true) ∧ Below w.heap.size w w' := by
  have HI0 := hide hin0
  obtain ⟨a', c', he, hm0, -⟩ := hin0
  cases he
  unfold maxLen at hm0
  have HI1 := hide hin1
  obtain ⟨a', c', he, hm1, -⟩ := hin1
  cases he
  unfold maxLen at hm1
  by_cases hr0 : 1048576 < r0.length
  · clear hs hi
    obtain ⟨R0, hR0⟩ : ∃ R0, R0 = r0.length := ⟨_, rfl⟩
    obtain ⟨R1, hR1⟩ : ∃ R1, R1 = r1.length := ⟨_, rfl⟩
    rw [← hR0] at HI0 hm0 hr0 ⊢
    rw [← hR1] at HI1 hm1 ⊢
    clear hR0 hR1
    go_enter Try.func6, Try.ntmps6
    go_wp2
    go_ret
    exact ⟨rfl, Below.refl _ _⟩
  · by_cases hr1 : 1048576 < r1.length
    · clear hs hi
      obtain ⟨R0, hR0⟩ : ∃ R0, R0 = r0.length := ⟨_, rfl⟩
      obtain ⟨R1, hR1⟩ : ∃ R1, R1 = r1.length := ⟨_, rfl⟩
      rw [← hR0] at HI0 hm0 hr0 ⊢
      rw [← hR1] at HI1 hm1 hr1 ⊢
      clear hR0 hR1
      go_enter Try.func6, Try.ntmps6
      go_wp2
      go_ret
      exact ⟨rfl, Below.refl _ _⟩
    · have HS := hide hs; have HM := hide hi
      have HR0 : Hid (r0.length ≤ 2000000) := hide (by omega)
      have HR1 : Hid (r1.length ≤ 2000000) := hide (by omega)
      clear hs hi
      go_enter Try.func6, Try.ntmps6
      go_wp2_with fail
      refine (toIntS_any _ r0 _ HR0.out HI0.out).mono ?_
      rintro e w1 ⟨p0, rfl, ho, hb⟩
      have P0L := hide (fun k e => ho.lt k e); have P0_1 := hide ho; have HB1 := hide (hb); have s1 := hb.size; clear ho hb
      go_wp2_with fail
      refine (toIntS_any _ r1 _ HR1.out (inRow_below HI1.out HB1.out)).mono ?_
      rintro e w2 ⟨p1, rfl, ho, hb⟩
      have P0_2 := hide (own_below P0_1.out hb); have P1L := hide (fun k e => ho.lt k e); have P1_2 := hide ho; have HB2 := hide (HB1.out.trans (hb.mono HB1.out.size)); have s2 := hb.size; clear ho hb
      go_wp2_with fail
      refine (HS.out p0 p1 _ (rowC_own P0_2.out) (rowC_own P1_2.out)).mono ?_
      rintro e w3 ⟨u, rfl, ho, hb⟩
      have U_3 := hide ho; have HB3 := hide (HB2.out.trans (hb.mono HB2.out.size)); have s3 := hb.size; clear ho hb
      go_wp2_with fail
      refine (toIntS_any _ r0 _ HR0.out (inRow_below HI0.out HB3.out)).mono ?_
      rintro e w4 ⟨x0, rfl, ho, hb⟩
      have U_4 := hide (ownMat_below U_3.out hb); have X0L := hide (fun k e => ho.lt k e); have X0_4 := hide ho; have HB4 := hide (HB3.out.trans (hb.mono HB3.out.size)); have s4 := hb.size; clear ho hb
      go_wp2_with fail
      refine (toIntS_any _ r1 _ HR1.out (inRow_below HI1.out HB4.out)).mono ?_
      rintro e w5 ⟨x1, rfl, ho, hb⟩
      have U_5 := hide (ownMat_below U_4.out hb); have X0_5 := hide (own_below X0_4.out hb); have X1L := hide (fun k e => ho.lt k e); have X1_5 := hide ho; have HB5 := hide (HB4.out.trans (hb.mono HB4.out.size)); have s5 := hb.size; clear ho hb
      go_wp2_with fail
      refine (HM.out x0 x1 _ (rowC_own X0_5.out) (rowC_own X1_5.out)).mono ?_
      rintro e w6 ⟨g, rfl, ho, hb⟩
      have U_6 := hide (ownMat_below U_5.out hb); have X0_6 := hide (own_below X0_5.out hb); have X1_6 := hide (own_below X1_5.out hb); have G_6 := hide ho; have HB6 := hide (HB5.out.trans (hb.mono HB5.out.size)); have s6 := hb.size; clear ho hb
      go_wp2_with fail
      refine (eqIntSS_same g u rows _ (inMat_own G_6.out) (inMat_own U_6.out)).mono ?_
      rintro e w7 ⟨rfl, hb⟩
      have U_7 := hide (ownMat_below U_6.out hb); have X0_7 := hide (own_below X0_6.out hb); have X1_7 := hide (own_below X1_6.out hb); have G_7 := hide (ownMat_below G_6.out hb); have HB7 := hide (HB6.out.trans (hb.mono HB6.out.size)); have s7 := hb.size; clear hb
      go_wp2_with fail
      refine (toIntS_any _ r0 _ HR0.out (inRow_below HI0.out HB7.out)).mono ?_
      rintro e w8 ⟨z0, rfl, ho, hb⟩
      have U_8 := hide (ownMat_below U_7.out hb); have X0_8 := hide (own_below X0_7.out hb); have X1_8 := hide (own_below X1_7.out hb); have G_8 := hide (ownMat_below G_7.out hb); have Z0L := hide (fun k e => ho.lt k e); have Z0_8 := hide ho; have HB8 := hide (HB7.out.trans (hb.mono HB7.out.size)); have s8 := hb.size; clear ho hb
      go_wp2_with fail
      refine (eqIntS_same x0 z0 r0 _ (inRow_own X0_8.out) (inRow_own Z0_8.out)).mono ?_
      rintro e w9 ⟨rfl, hb⟩
      have U_9 := hide (ownMat_below U_8.out hb); have X0_9 := hide (own_below X0_8.out hb); have X1_9 := hide (own_below X1_8.out hb); have G_9 := hide (ownMat_below G_8.out hb); have HB9 := hide (HB8.out.trans (hb.mono HB8.out.size)); have s9 := hb.size; clear hb
      go_wp2_with fail
      refine (toIntS_any _ r1 _ HR1.out (inRow_below HI1.out HB9.out)).mono ?_
      rintro e w10 ⟨z1, rfl, ho, hb⟩
      have U_10 := hide (ownMat_below U_9.out hb); have X0_10 := hide (own_below X0_9.out hb); have X1_10 := hide (own_below X1_9.out hb); have G_10 := hide (ownMat_below G_9.out hb); have Z1L := hide (fun k e => ho.lt k e); have Z1_10 := hide ho; have HB10 := hide (HB9.out.trans (hb.mono HB9.out.size)); have s10 := hb.size; clear ho hb
      go_wp2_with fail
      refine (eqIntS_same x1 z1 r1 _ (inRow_own X1_10.out) (inRow_own Z1_10.out)).mono ?_
      rintro e w11 ⟨rfl, hb⟩
      have U_11 := hide (ownMat_below U_10.out hb); have X0_11 := hide (own_below X0_10.out hb); have X1_11 := hide (own_below X1_10.out hb); have G_11 := hide (ownMat_below G_10.out hb); have HB11 := hide (HB10.out.trans (hb.mono HB10.out.size)); have s11 := hb.size; clear hb
      go_wp2_with fail
      refine (markIntS_any r0.length 1 x0 _ _ _ (by have := HR0.out; omega) (by omega) X0_11.out).mono ?_
      rintro e w12 ⟨rfl, -, hg⟩; have hwi := within_grown (lo := w3.heap.size) (hi := w4.heap.size) hg (fun k e => X0L.out k e); clear hg
      have U_12 := hide (ownMat_within U_11.out hwi (by omega)); have X1_12 := hide (own_within X1_11.out hwi (fun k e => by have h1 := X1L.out k e; omega)); have G_12 := hide (ownMat_within G_11.out hwi (by omega)); have HB12 := hide (HB11.out.trans (below_within hwi (by omega) HB11.out.size)); have s12 := hwi.size; clear hwi
      go_wp2_with fail
      refine (markIntS_any r1.length (1 + r0.length) x1 _ _ _ (by have := HR1.out; omega) (by have := HR0.out; omega) X1_12.out).mono ?_
      rintro e w13 ⟨rfl, -, hg⟩; have hwi := within_grown (lo := w4.heap.size) (hi := w5.heap.size) hg (fun k e => X1L.out k e); clear hg
      have U_13 := hide (ownMat_within U_12.out hwi (by omega)); have G_13 := hide (ownMat_within G_12.out hwi (by omega)); have HB13 := hide (HB12.out.trans (below_within hwi (by omega) HB12.out.size)); have s13 := hwi.size; clear hwi
      go_wp2_with fail
      refine (eqIntSS_same g u rows _ (inMat_own G_13.out) (inMat_own U_13.out)).mono ?_
      rintro e w14 ⟨rfl, hb⟩
      have U_14 := hide (ownMat_below U_13.out hb); have G_14 := hide (ownMat_below G_13.out hb); have HB14 := hide (HB13.out.trans (hb.mono HB13.out.size)); have s14 := hb.size; clear hb
      go_wp2_with fail
      refine (markIntSS_any rows 1 _ _ g _ (by omega) (by omega) G_14.out).mono ?_
      rintro e w15 ⟨rfl, ho, hwi⟩
      have U_15 := hide (ownMat_within U_14.out hwi (by omega)); have HB15 := hide (HB14.out.trans (below_within hwi (by omega) HB14.out.size)); have s15 := hwi.size; clear hwi
      have M_15 := hide (inMat_own ho); clear ho
      go_wp2_with fail
      refine (heldIntSS_any rows 1 g _ (by omega) (by omega) M_15.out).mono ?_
      rintro e w16 ⟨rfl, hb⟩
      have U_16 := hide (ownMat_below U_15.out hb); have M_16 := hide (inMat_below M_15.out hb); have HB16 := hide (HB15.out.trans (hb.mono HB15.out.size)); have s16 := hb.size; clear hb
      go_wp2_with fail
      refine (toIntS_any _ r0 _ HR0.out (inRow_below HI0.out HB16.out)).mono ?_
      rintro e w17 ⟨y0, rfl, ho, hb⟩
      have U_17 := hide (ownMat_below U_16.out hb); have M_17 := hide (inMat_below M_16.out hb); have Y0L := hide (fun k e => ho.lt k e); have Y0_17 := hide ho; have HB17 := hide (HB16.out.trans (hb.mono HB16.out.size)); have s17 := hb.size; clear ho hb
      go_wp2_with fail
      refine (toIntS_any _ r1 _ HR1.out (inRow_below HI1.out HB17.out)).mono ?_
      rintro e w18 ⟨y1, rfl, ho, hb⟩
      have U_18 := hide (ownMat_below U_17.out hb); have M_18 := hide (inMat_below M_17.out hb); have Y0_18 := hide (own_below Y0_17.out hb); have Y1L := hide (fun k e => ho.lt k e); have Y1_18 := hide ho; have HB18 := hide (HB17.out.trans (hb.mono HB17.out.size)); have s18 := hb.size; clear ho hb
      go_wp2_with fail
      refine (HM.out y0 y1 _ (rowC_own Y0_18.out) (rowC_own Y1_18.out)).mono ?_
      rintro e w19 ⟨h, rfl, ho, hb⟩
      have U_19 := hide (ownMat_below U_18.out hb); have M_19 := hide (inMat_below M_18.out hb); have H_19 := hide ho; have HB19 := hide (HB18.out.trans (hb.mono HB18.out.size)); have s19 := hb.size; clear ho hb
      go_wp2_with fail
      refine (eqIntSS_same h u rows _ (inMat_own H_19.out) (inMat_own U_19.out)).mono ?_
      rintro e w20 ⟨rfl, hb⟩
      have U_20 := hide (ownMat_below U_19.out hb); have M_20 := hide (inMat_below M_19.out hb); have H_20 := hide (ownMat_below H_19.out hb); have HB20 := hide (HB19.out.trans (hb.mono HB19.out.size)); have s20 := hb.size; clear hb
      go_wp2_with fail
      refine (heldIntSS_any rows 1 g _ (by omega) (by omega) M_20.out).mono ?_
      rintro e w21 ⟨rfl, hb⟩
      have M_21 := hide (inMat_below M_20.out hb); have HB21 := hide (HB20.out.trans (hb.mono HB20.out.size)); have s21 := hb.size; clear hb
      go_wp2
      go_ret
      exact ⟨rfl, HB21.out⟩
theorem lawFixedCells_walk (a : Option Addr) (n c : Nat) (r : List Int) (b : Option Addr) (k d : Nat) (s : List Int) (w : World) (hin : InRow w (.slice a n c) r) (hin2 : InRow w (.slice b k d) s) :
    Calls Try.prog 6 #[.slice a n c, .slice b k d] w fun e w' => e = .returned (.bool true) ∧ Below w.heap.size w w' := by
  refine lawFixedCells_gen a n c r b k d s w hin hin2 (fixedIm r s) ?_ (fun v u w hv hu => specFixed_any v u r s w hv hu) (fun v u w hv hu => implFixed_any v u r s w hv hu)
  unfold fixedIm
  cases h : existsOf r s with
  | true =>
    obtain ⟨hr, hc, -⟩ := sumsOk_yes (existsOf_sums h)
    rw [if_pos rfl]
    refine rows_small (by rw [mkM_len]; exact hr.2) fun q hq => ?_
    obtain ⟨y, hy, rfl⟩ := List.getElem_of_mem hq
    rw [mkM_at, rowF_len]; exact hc.2
  | false => rw [if_neg (by decide)]; decide
end Go.Proofs.Ytjgkblgilnfpfaa
