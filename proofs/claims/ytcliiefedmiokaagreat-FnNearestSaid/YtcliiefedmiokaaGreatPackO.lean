/-
  Texts of this claim, one behind the other: CountF, FixI, Lists, Arr2, Arr3, Arr4, Impl, SpecI.
-/
import Derived.Test.YtcliiefedmiokaaGreatPackN
import Derived.Test.YtcliiefedmiokaaGreatPackC
import Derived.Test.YtcliiefedmiokaaGreatPackB
import Derived.Test.YtcliiefedmiokaaGreatPackE
import Derived.Test.YtcliiefedmiokaaGreatPackF
import Derived.Test.YtcliiefedmiokaaGreatPackL
/-
  slices.Concat of rows, and the count of fixed cells.
-/
namespace Go.Proofs.YtcliiefedmiokaaGreat
open Go.RowKit


set_option maxHeartbeats 400000 in
theorem countAtLeast_big (v : Value) (r : List Int) (t : Int) (w : World) (hin : InRow w v r) (hn : r.length ≤ 1000) :
    Calls Tryz.prog 83 #[v, .int .i64 t] w fun e w' => e = .returned (.int .i64 (atLeast t r : Nat)) ∧ w = w' := by
  obtain ⟨a, c, rfl, hm, hp⟩ := hin
  unfold maxLen at hm
  have HP := hide fun h : r.length ≠ 0 => hp.resolve_left h
  obtain ⟨n, hnn⟩ : ∃ n, n = r.length := ⟨_, rfl⟩
  have HN := hide hnn
  rw [← hnn] at hm hn ⊢
  clear hp hnn
  go_enter Tryz.func83, Tryz.ntmps83
  go_wp2
  go_loop [5, 10] (fun s i => ∃ k : Nat, k ≤ n ∧ i = .int .i64 k ∧ s = .int .i64 (atLeast t (r.take k) : Nat)) (fun _ i => n - (intOf i).toNat)
  case atStart => exact ⟨0, Nat.zero_le _, rfl, rfl⟩
  case round =>
    obtain ⟨k, hk, rfl, rfl⟩ := hrel
    have hle := Nat.le_trans (atLeast_le t (r.take k)) (show (r.take k).length ≤ 1000 by rw [List.length_take]; have := HN.out; omega)
    by_cases hlt : k < n
    · obtain ⟨g, o, rfl, hg, hc⟩ := HP.out (by have := HN.out; omega)
      have hk' : k < r.length := by rw [← HN.out]; exact hlt
      have hx := hc k hk'
      have HAT := hide (atLeast_take t r k hk')
      obtain ⟨x, hxx⟩ : ∃ x, x = r[k] := ⟨_, rfl⟩
      obtain ⟨q, hq⟩ : ∃ q, q = atLeast t (r.take k) := ⟨_, rfl⟩
      rw [← hxx] at hx HAT
      rw [← hq] at hle HAT ⊢
      clear hxx hq hc
      by_cases htx : t ≤ x
      · have HAT2 : Hid (atLeast t (r.take (k + 1)) = q + 1) := hide (by rw [HAT.out, if_pos htx])
        clear HAT
        go_wp2
        go_round
        case rel => exact ⟨k + 1, by omega, by go_num, by rw [HAT2.out]; go_num⟩
        case measure => simp [intOf]; omega
      · have HAT2 : Hid (atLeast t (r.take (k + 1)) = q) := hide (by rw [HAT.out, if_neg htx]; rfl)
        clear HAT
        go_wp2
        go_round
        case rel => exact ⟨k + 1, by omega, by go_num, by rw [HAT2.out]⟩
        case measure => simp [intOf]; omega
    · have HE : Hid (r.take k = r) := hide (List.take_of_length_le (by have := HN.out; omega))
      rw [HE.out] at hle ⊢
      go_wp2
      go_ret
      exact ⟨rfl, rfl⟩
set_option maxHeartbeats 1000000 in
theorem concat_any (v : Value) (m : List (List Int)) (w : World) (hin : InMat w v m) (hn : m.length ≤ 5) (hr : ∀ q ∈ m, 0 < q.length ∧ q.length ≤ 5) :
    Calls Tryz.prog 84 #[v] w (IntsRes m.flatten w) := by
  obtain ⟨a, c, rfl, -, hp⟩ := hin
  have HP := hide fun (h : 0 < m.length) => hp.resolve_left (by omega)
  have hcm : ∀ k, k ≤ m.length → cellsM (m.take k) ≤ 5 * k := by
    intro k
    induction k with
    | zero => intro _; simp [cellsM]
    | succ k ih =>
      intro hk
      have h1 := ih (by omega)
      have h2 := (hr _ (List.getElem_mem (show k < m.length by omega))).2
      rw [cells_snoc m k (by omega)]; omega
  have HCM := hide hcm; have HR := hide hr
  obtain ⟨n, hnn⟩ : ∃ n, n = m.length := ⟨_, rfl⟩
  have HN := hide hnn
  rw [← hnn] at HCM hn ⊢
  clear hp hcm hr hnn
  go_enter Tryz.func84, Tryz.ntmps84
  go_wp2
  go_loop [3, 11] (fun s i => ∃ j t : Nat, j ≤ n ∧ i = .int .i64 j ∧ s = .int .i64 t ∧ cellsM (m.take j) = t ∧ t ≤ 25) (fun _ i => n - (intOf i).toNat)
  case atStart => exact ⟨0, 0, Nat.zero_le _, rfl, rfl, by simp [cellsM], by omega⟩
  case round =>
    obtain ⟨j, t, hj, rfl, rfl, ht, ht5⟩ := hrel
    have HT := hide ht
    clear ht
    by_cases hlt : j < n
    · obtain ⟨g, o, rfl, hg, hc⟩ := HP.out (by rw [← HN.out]; omega)
      obtain ⟨u, hx, hru⟩ := hc j (by rw [← HN.out]; exact hlt)
      have HS := hide (cells_snoc m j (by rw [← HN.out]; exact hlt))
      have HC1 := hide (HCM.out (j + 1) (by omega))
      obtain ⟨ua, uc, rfl, -, -⟩ := hru
      obtain ⟨k, hk⟩ : ∃ k, k = (m[j]'(by rw [← HN.out]; exact hlt)).length := ⟨_, rfl⟩
      rw [← hk] at hx HS
      have hk5 : t + k ≤ 25 := by have h1 := HS.out; have h2 := HC1.out; have h3 := HT.out; omega
      clear hc hk
      go_wp2
      go_round
      case rel => exact ⟨j + 1, t + k, by omega, by go_num, by go_num, by rw [HS.out, HT.out], hk5⟩
      case measure => simp [intOf]; omega
    · obtain rfl : j = n := by omega
      go_wp2_with fail
      refine (grow_nil t w (by omega)).mono ?_
      rintro e w1 ⟨u1, rfl, ho, hb⟩
      obtain ⟨xa, xc, rfl⟩ := own_slice ho
      have HO1 := hide ho; have HB1 := hide hb
      clear ho hb
      go_wp2
      go_loopw [6, 27] (fun s i w' => ∃ k : Nat, ∃ (q : Option Addr) (p cp : Nat), k ≤ j ∧ i = .int .i64 k ∧ s = .slice q p cp ∧ (p = (m.take k).flatten.length ∧ p ≤ 5 * k ∧ w'.ownsRow w.heap.size 3 1 (.slice q p cp) p (ints (m.take k).flatten)) ∧ Below w.heap.size w w') (fun _ i _ => j - (intOf i).toNat)
      case atStart => exact ⟨0, _, _, _, Nat.zero_le _, rfl, rfl, ⟨by simp, by simp, by simpa [ints] using HO1.out⟩, HB1.out⟩
      case round =>
        obtain ⟨k, q, p, cp, hk, rfl, rfl, ⟨hpl, hp5, hown⟩, hb⟩ := hrel
        have HPL := hide hpl; have HOW := hide hown; have HB2 := hide hb
        clear hpl hown hb
        by_cases hlk : k < j
        · obtain ⟨g, o, rfl, hg, hc⟩ := HP.out (by rw [← HN.out]; omega)
          have hkm : k < m.length := by rw [← HN.out]; exact hlk
          obtain ⟨u, hx, hru⟩ := hc k hkm
          have hx := below_cell HB2.out hg hx
          have hru := inRow_below hru HB2.out
          have HRR := hide (HR.out _ (List.getElem_mem hkm))
          have HTK := hide (show (m.take (k + 1)).flatten = (m.take k).flatten ++ m[k] by rw [List.take_succ_eq_append_getElem hkm, List.flatten_append, List.flatten_cons, List.flatten_nil, List.append_nil])
          obtain ⟨row, hrow⟩ : ∃ row, row = m[k] := ⟨_, rfl⟩
          rw [← hrow] at hru HRR HTK
          obtain ⟨ua, uc, rfl, -, hpp⟩ := hru
          obtain ⟨g2, o2, rfl, hg2, hc2⟩ := hpp.resolve_left (by have := HRR.out; omega)
          have HC2 := hide hc2
          have hbs : w.heap.size ≤ wr.heap.size := HB2.out.size
          have hr5 := HRR.out.2
          clear hc hrow hpp hc2
          go_wp2_with (at_builtin; (with_reducible refine wpList_appendRow 33 rfl HOW.out row g2 o2 uc (.int .i64 0) rfl _ _ rfl Tryz.underlying30 Tryz.infoInt rfl (by decide) rfl rfl HC2.out (by omega) hbs ?_); rintro v' w2 ho2 hb2 -; obtain ⟨ya, yc, rfl⟩ := own_slice ho2; have HO2 := hide ho2; have HB3 := hide (HB2.out.trans hb2); clear ho2 hb2)
          go_roundw
          case rel => exact ⟨k + 1, _, _, _, by omega, by go_num, rfl, ⟨by rw [HTK.out, List.length_append, HPL.out], by omega, by rw [HTK.out]; have := HO2.out; simpa [ints] using this⟩, HB3.out⟩
          case measure => simp [intOf]; omega
        · obtain rfl : k = j := by omega
          have HE := hide (show m.take k = m from List.take_of_length_le (by rw [← HN.out]; exact Nat.le_refl _))
          go_wp2
          go_ret
          have h1 := HPL.out
          have h2 := HOW.out
          rw [HE.out] at h1 h2
          subst h1
          exact ⟨_, rfl, h2, HB2.out⟩

set_option maxHeartbeats 400000 in
theorem countFixed_any (v : Value) (m : List (List Int)) (w : World) (hin : InMat w v m) (hn : m.length ≤ 5) (hr : ∀ q ∈ m, 0 < q.length ∧ q.length ≤ 5) :
    Calls Tryz.prog 38 #[v] w fun e w' => e = .returned (.int .i64 (atLeast 0 m.flatten : Nat)) ∧ Below w.heap.size w w' := by
  have HC := hide (concat_any v m w hin hn hr)
  have hfl : m.flatten.length ≤ 1000 := by
    have key : ∀ l : List (List Int), (∀ q ∈ l, q.length ≤ 5) → l.flatten.length ≤ 5 * l.length := by
      intro l
      induction l with
      | nil => intro _; simp
      | cons x l ih =>
        intro h
        have h3 := ih fun q hq => h q (List.mem_cons_of_mem _ hq)
        have h4 := h x (by simp)
        simp only [List.flatten_cons, List.length_append, List.length_cons]; omega
    have := key m fun q hq => (hr q hq).2
    omega
  obtain ⟨a, c, rfl, -, -⟩ := hin
  have HF := hide hfl
  generalize m.length = n at HC
  obtain ⟨fl, hfe⟩ : ∃ fl, fl = m.flatten := ⟨_, rfl⟩
  rw [← hfe] at HC HF ⊢
  clear hn hr hfl hfe
  go_enter Tryz.func38, Tryz.ntmps38
  go_wp2_with fail
  refine HC.out.mono ?_
  rintro e w1 ⟨u, rfl, ho, hb⟩
  have HB := hide hb; have HI := hide (inRow_own ho)
  clear ho hb
  go_wp2_with fail
  refine (countAtLeast_big u fl 0 w1 HI.out HF.out).mono ?_
  rintro e w2 ⟨rfl, rfl⟩
  go_wp2
  go_ret
  exact ⟨rfl, HB.out⟩
end Go.Proofs.YtcliiefedmiokaaGreat
/-
  FixedCells of the program.
-/
namespace Go.Proofs.YtcliiefedmiokaaGreat
open Go.RowKit Go.Shelf
attribute [local go_sem] Oper.semAt_some

def cellI (m : List (List Int)) (y x : Nat) : Int := (m.getD y []).getD x 0
def fixF (f : Nat → Nat → Int) (ms : List (List (List Int))) : Nat → Nat → Int := ms.foldl (fun f m => frF f (cellI m)) f
theorem fixF_snoc (f : Nat → Nat → Int) (ms : List (List (List Int))) (m : List (List Int)) : fixF f (ms ++ [m]) = frF (fixF f ms) (cellI m) := by unfold fixF; rw [List.foldl_append]; rfl
theorem fixF_free (f : Nat → Nat → Int) (y x : Nat) : ∀ (ms : List (List (List Int))) , f y x = -1 → fixF f ms y x = -1
  | [], h => h
  | m :: ms, h => by
    show fixF (frF f (cellI m)) ms y x = -1
    refine fixF_free _ y x ms ?_
    unfold frF; rw [h]; split <;> rfl
theorem fixF_or (y x : Nat) : ∀ (ms : List (List (List Int))) (f : Nat → Nat → Int), fixF f ms y x = f y x ∨ fixF f ms y x = -1
  | [], _ => .inl rfl
  | m :: ms, f => by
    rcases fixF_or y x ms (frF f (cellI m)) with h | h
    · by_cases e : f y x = cellI m y x
      · exact .inl (by show fixF (frF f (cellI m)) ms y x = _; rw [h, frF, if_pos e])
      · exact .inr (by show fixF (frF f (cellI m)) ms y x = _; rw [h, frF, if_neg e])
    · exact .inr h
/-- The cells that all images with these sums agree in; -1 elsewhere. -/
def fixedIm (r c : List Int) : List (List Int) := if existsOf r c = true then mkM r.length c.length (fixF (cellI (imgL leastCh r c)) (allL r c)) else []
theorem mkM_cellI {R C : Nat} {m : List (List Int)} (h1 : m.length = R) (h2 : ∀ q ∈ m, q.length = C) : m = mkM R C (cellI m) := by
  apply List.ext_getElem
  · rw [mkM_len, h1]
  · intro y hy1 hy2
    rw [mkM_at]
    apply List.ext_getElem
    · rw [rowF_len, h2 _ (List.getElem_mem hy1)]
    · intro x hx1 hx2
      rw [rowF_at, cellI, List.getD_eq_getElem?_getD, List.getD_eq_getElem?_getD, List.getElem?_eq_getElem hy1, Option.getD_some, List.getElem?_eq_getElem hx1]; rfl
theorem mkM_ext {R C : Nat} {f g : Nat → Nat → Int} (h : ∀ y x, y < R → x < C → f y x = g y x) : mkM R C f = mkM R C g := by
  apply List.ext_getElem
  · simp [mkM]
  · intro y h1 h2
    rw [mkM_at, mkM_at]
    rw [mkM_len] at h1
    apply List.ext_getElem
    · simp [rowF_len]
    · intro x h3 h4
      rw [rowF_len] at h3
      rw [rowF_at, rowF_at]; exact h y x h1 h3
theorem all_free {R C : Nat} {f0 : Nat → Nat → Int} {pre t : List (List (List Int))} (h0 : ∀ y x, y < R → x < C → f0 y x = 0 ∨ f0 y x = 1) (h : atLeast 0 (mkM R C (fixF f0 pre)).flatten = 0) : mkM R C (fixF f0 (pre ++ t)) = mkM R C (fixF f0 pre) := by
  refine mkM_ext fun y x hy hx => ?_
  have hneg : fixF f0 pre y x < 0 := by
    rw [atLeast, List.countP_eq_zero] at h
    have hmem : fixF f0 pre y x ∈ (mkM R C (fixF f0 pre)).flatten := by
      rw [List.mem_flatten]
      have hy' : y < (mkM R C (fixF f0 pre)).length := by rw [mkM_len]; exact hy
      have hx' : x < ((mkM R C (fixF f0 pre))[y]).length := by rw [mkM_at, rowF_len]; exact hx
      refine ⟨_, List.getElem_mem hy', ?_⟩
      have := List.getElem_mem hx'
      have e : ((mkM R C (fixF f0 pre))[y])[x] = fixF f0 pre y x := by simp [mkM_at, rowF_at]
      rw [e] at this; exact this
    have := h _ hmem
    simp only [decide_eq_true_eq] at this
    omega
  have hfree : fixF f0 pre y x = -1 := by
    rcases fixF_or y x pre f0 with e | e
    · rcases h0 y x hy hx with e2 | e2 <;> omega
    · exact e
  rw [hfree]
  unfold fixF
  rw [List.foldl_append]
  exact fixF_free _ y x t hfree
theorem least_cells {r c : List Int} (h : existsOf r c = true) : imgL leastCh r c = mkM r.length c.length (cellI (imgL leastCh r c)) ∧ ∀ y x, y < r.length → x < c.length → cellI (imgL leastCh r c) y x = 0 ∨ cellI (imgL leastCh r c) y x = 1 := by
  obtain ⟨hr, hc, -⟩ := sumsOk_yes (existsOf_sums h)
  obtain ⟨l, hl⟩ := all_first r c hr.2 hc (img_of_exists h)
  obtain ⟨h1, h2, h3⟩ := all_sound r c hr.2 hc (img_of_exists h) (imgL leastCh r c) (by rw [hl]; simp)
  refine ⟨mkM_cellI h1 h2, fun y x hy hx => ?_⟩
  exact h3.1 y x hy hx

/-- What is known while images are looked at: the box q, the cells in it. -/
def FixSt (lo q R C : Nat) (v : Value) (f0 : Nat → Nat → Int) (pre : List (List (List Int))) (A : Nat → Prop) (W : World) : Prop :=
  ((∀ k, A k ↔ lo ≤ k ∧ k ≤ q) ∧ lo ≤ q) ∧ Boxed W q 22 v ∧ OwnMat W lo q v (mkM R C (fixF f0 pre))
theorem fixSt_abid {lo q R C B : Nat} {v : Value} {f0 : Nat → Nat → Int} : AbidF B (FixSt lo q R C v f0) := by
  rintro pre A W W' ⟨⟨h1, h0⟩, h2, vs, g1, g2, g3, g4⟩ - - - - hk
  have hkk : ∀ k, k < W.heap.size → lo ≤ k → k ≤ q → W'.heap[k]? = W.heap[k]? := fun k h3 h4 h5 => hk k h3 (.inr ((h1 k).2 ⟨h4, h5⟩))
  exact ⟨⟨h1, h0⟩, (hkk q h2.lt h0 (Nat.le_refl _)).trans h2, vs, own_agr g1 fun k he => hkk k (g1.lt k he).2 (g1.lt k he).1 (Nat.le_of_lt (g2 k he)), g2, fun i hi => ⟨own_agr (g3 i hi).1 fun k he => hkk k ((g3 i hi).1.lt k he).2 ((g3 i hi).1.lt k he).1 (Nat.le_of_lt ((g3 i hi).2 k he)), (g3 i hi).2⟩, g4⟩

set_option maxRecDepth 100000 in
set_option maxHeartbeats 2000000 in
theorem implFixed_yes (va vb : Value) (r c : List Int) (w : World) (ha : RowC w va r) (hb : RowC w vb c) (h : existsOf r c = true) :
    Calls Tryz.prog 39 #[va, vb] w (MatRes (fixedIm r c) w) := by
  refine (callsIn_wide (n := 0)).1 ?_
  have HLI := hide (implLeast_any va vb r c w ha hb)
  rw [if_pos h, h] at HLI
  obtain ⟨hr5, hc5, -⟩ := sumsOk_yes (existsOf_sums h)
  obtain ⟨hlm, h01⟩ := least_cells h
  obtain ⟨f0, hf0⟩ : ∃ f0, f0 = cellI (imgL leastCh r c) := ⟨_, rfl⟩
  rw [hlm, ← hf0] at HLI
  have HANS := hide (show fixedIm r c = mkM r.length c.length (fixF f0 (allL r c)) by unfold fixedIm; rw [if_pos h, hf0])
  rw [← hf0] at h01
  have HS := hide (existsOf_sums h)
  have HIMG := hide fun m (hm : m ∈ allL r c) => all_sound r c hr5.2 hc5 (img_of_exists h) m hm
  have H01 := hide h01
  have HA := hide ha; have HB := hide hb.1
  obtain ⟨xa, ca, hva, -, -⟩ := ha.1
  obtain ⟨xb, cb, hvb, -, -⟩ := hb.1
  subst hva hvb
  have HIW := hide fun w' (hw : Below w.heap.size w w') => imagesWith_any _ _ r c w' (rowC_below HA.out hw) (inRow_below HB.out hw)
  obtain ⟨R, hR⟩ : ∃ R, R = r.length := ⟨_, rfl⟩
  obtain ⟨C, hCC⟩ : ∃ C, C = c.length := ⟨_, rfl⟩
  rw [← hR] at HA HLI HIW hr5 HANS HIMG H01 ⊢
  rw [← hCC] at HB HLI HIW hc5 HANS HIMG H01 ⊢
  rw [HANS.out]
  have HRC := hide (And.intro hr5 hc5)
  clear h ha hb hR hCC hlm h01 hf0 hr5 hc5
  refine callsIn_of_wp_marks Tryz.func39 rfl trivial ?_ rfl
  simp only [Tryz.ntmps39, List.size_toArray, List.length_cons, List.length_nil, Nat.reduceAdd, Nat.reduceSub, Array.replicate_succ, Array.replicate_zero, List.push_toArray, List.append_toArray, List.nil_append, List.cons_append]
  gi_wp2_with fail
  refine ⟨trivial, rfl, (callsIn_wide (n := 0)).2 (HLI.out.mono ?_)⟩
  rintro e w1 ⟨v, rfl, hown, hb1⟩
  obtain ⟨gv, cv, rfl⟩ := ownMat_some hown (by rw [mkM_len]; have := HRC.out; omega)
  rw [mkM_len] at hown ⊢
  have B1 := hide hb1
  have HOW := hide hown
  clear hown hb1
  gi_wp2_with fail
  obtain ⟨w2, hw2⟩ : ∃ w2, w2 = w1.alloc (.cells #[.slice (some ⟨gv, 0, none⟩) R cv] 22) := ⟨_, rfl⟩
  rw [← hw2]
  have HBX := hide (show Boxed w2 w1.heap.size 22 (.slice (some ⟨gv, 0, none⟩) R cv) by rw [hw2]; exact Boxed.new _ _ _)
  have hb12 : Below w1.heap.size w1 w2 := by rw [hw2]; exact (Below.refl _ w1).alloc (Nat.le_refl _) _
  have B2 := hide (B1.out.trans (hb12.mono B1.out.size))
  have HOW2 := hide (ownMat_below HOW.out hb12)
  have HS2 := hide (show w2.heap.size = w1.heap.size + 1 by rw [hw2]; simp)
  clear hw2 hb12
  refine ⟨trivial, rfl, (callsIn_wide (n := 0)).2 ((HIW.out w2 B2.out).mono ?_)⟩
  rintro e w3 ⟨rfl, hx1, hx2, hx3, hb3, hs3⟩
  have B3 := hide (B2.out.trans (hb3.mono B2.out.size))
  have HX := hide (And.intro hx1 (And.intro hx2 hx3))
  have HS3 := hide hs3
  have HST := hide (show FixSt w.heap.size w1.heap.size R C (.slice (some ⟨gv, 0, none⟩) R cv) f0 [] (fun k => w.heap.size ≤ k ∧ k ≤ w1.heap.size) w3 from ⟨⟨fun k => Iff.rfl, B1.out.size⟩, (hb3.block _ HBX.out.lt).trans HBX.out, ownMat_below HOW2.out hb3⟩)
  clear hx1 hx2 hx3 hb3 hs3
  gi_wp2_with fail
  refine wp_rangeEach (gf := 134) (lb := #[.pointer (some ⟨w2.heap.size, 0, none⟩), .pointer (some ⟨w2.heap.size + 2, 0, none⟩), .pointer (some ⟨w2.heap.size + 1, 0, none⟩)]) rfl (enters_of Tryz.func134 (by kernel_rfl) rfl)
    (L := allL r c) (Val := ValM) (fun v m lo G W W' h1 _ h3 => valM_agr h1 h3) (fun k => w.heap.size ≤ k ∧ k ≤ w1.heap.size) (fun k hk => by have h1 := HS2.out; have h2 := HS3.out; omega) (fun W4 hb4 hs4 => ?seq) rfl
    (FixSt w.heap.size w1.heap.size R C (.slice (some ⟨gv, 0, none⟩) R cv) f0)
    (fun cc pre A W => cc = .exit 0 ∧ FixSt w.heap.size w1.heap.size R C (.slice (some ⟨gv, 0, none⟩) R cv) f0 pre A W ∧ atLeast 0 (mkM R C (fixF f0 pre)).flatten = 0 ∧ Below w.heap.size w W) fixSt_abid (fun cc => ?hIx) (fun pre A W h k hk => by have h1 := h.2.1.lt; have h2 := ((h.1.1 k).1 hk).2; omega) HST.out
    (fun x => { tmps := #[.slice xa R ca, .slice xb C cb, undef, undef, .slice none 0 0, .pointer (some ⟨w1.heap.size, 0, none⟩), .bool true, x, .tuple #[.slice (some ⟨gv, 0, none⟩) R cv, .bool true], .slice xa R ca, .slice xb C cb, .tuple #[.slice (some ⟨gv, 0, none⟩) R cv, .bool true], .slice (some ⟨gv, 0, none⟩) R cv, .bool true, .bool true, .bool false, .slice xa R ca, .slice xb C cb, .func (.func 134) #[] #[.pointer (some ⟨w2.heap.size, 0, none⟩), .pointer (some ⟨w2.heap.size + 2, 0, none⟩), .pointer (some ⟨w2.heap.size + 1, 0, none⟩)], x, undef, undef, undef, undef, undef, undef, undef], defers := [] }) ?assign ?body ?done ?stop
  case seq =>
    have h1 := HS2.out; have h2 := HS3.out
    refine iter_start HA.out HB.out HS.out (B3.out.trans (hb4.mono B3.out.size)) (fun k hk => ⟨hk.1, by omega⟩) (below_cell hb4 (by omega) HX.out.1) (below_cell hb4 (by omega) HX.out.2.1) (below_cell hb4 (by omega) HX.out.2.2) (by omega) (by omega) (by omega)
  case hIx => exact fun s A W W' h ho ht hp hs hk => ⟨h.1, fixSt_abid s A W W' h.2.1 ho ht hp hs hk, h.2.2.1, ⟨ho.trans h.2.2.2.os, ht.trans h.2.2.2.tape, hp.trans h.2.2.2.output, Nat.le_trans h.2.2.2.size hs, fun k hk2 => by rw [hk k (Nat.lt_of_lt_of_le hk2 h.2.2.2.size) (.inl (Nat.lt_of_lt_of_le hk2 B3.out.size))]; exact h.2.2.2.block k hk2⟩⟩
  case assign =>
    intro l2 x m lo G W K hv hK
    obtain ⟨ax, nx, cx, rfl⟩ : ∃ a n c, x = .slice a n c := by obtain ⟨vs, ⟨hv, -⟩, -⟩ := hv; obtain ⟨a, c, h⟩ := own_slice hv; exact ⟨a, _, c, h⟩
    clear hv
    gi_wp2
    exact hK
  case body =>
    intro l2 pre A m x lo G W hi hst hpre hval hlo hlo1 hAlo hG
    obtain ⟨ax, nx, cx, rfl⟩ : ∃ a n c, x = .slice a n c := by obtain ⟨vs, ⟨hv, -⟩, -⟩ := id hval; obtain ⟨a, c, h⟩ := own_slice hv; exact ⟨a, _, c, h⟩
    have hq := hAlo w1.heap.size ((hi.1.1 _).2 ⟨hi.1.2, Nat.le_refl _⟩)
    obtain ⟨hm1, hm2, -⟩ := HIMG.out m (hpre.subset (List.mem_append_right _ (List.mem_singleton_self m)))
    have hmo := valM_own hval fun k hk => (hG k hk).2
    rw [mkM_cellI hm1 hm2] at hmo
    have HFW := hide (freeWhere_any (.slice (some ⟨gv, 0, none⟩) R cv) (.slice ax nx cx) R C w.heap.size w1.heap.size lo W.heap.size (fixF f0 pre) (cellI m) W HRC.out.1 HRC.out.2 hi.2.2 hmo (.inl (by omega)))
    rw [← fixF_snoc] at HFW
    have HIFF := hide hi.1
    have HBW0 := hide (below_itStep B3.out (fun k hk => hk.1) hst)
    have HBW := hide hi.2.1
    have hcu := hi.2.1.cell
    have hwq : w1.heap.size < W.heap.size := hi.2.1.lt
    clear hi hst hpre hval hlo hlo1 hAlo hG hm1 hm2 hmo hq
    gi_wp2_with fail
    refine ⟨trivial, rfl, (show CallsIn Fence.wide 0 _ _ _ _ _ from (callsIn_wide (n := 0)).2 (HFW.out.mono ?_))⟩
    rintro e W2 ⟨⟨u, rfl⟩, ho2, hw2⟩
    have HW2 := hide hw2
    have HB2 := hide (show Boxed W2 w1.heap.size 22 (.slice (some ⟨gv, 0, none⟩) R cv) from (hw2.block _ HBW.out.lt (.inr (Nat.le_refl _))).trans HBW.out)
    have HO2 := hide ho2
    have hcu2 := HB2.out.cell
    have HCF := hide (countFixed_any (.slice (some ⟨gv, 0, none⟩) R cv) (mkM R C (fixF f0 (pre ++ [m]))) W2 (inMat_own ho2) (by rw [mkM_len]; exact HRC.out.1.2) (fun q hq => by
      obtain ⟨y, hy, rfl⟩ := List.getElem_of_mem hq
      rw [mkM_at, rowF_len]; have := HRC.out; omega))
    clear ho2 hw2 hcu
    gi_wp2_with fail
    refine ⟨trivial, rfl, (show CallsIn Fence.wide 0 _ _ _ _ _ from (callsIn_wide (n := 0)).2 (HCF.out.mono ?_))⟩
    rintro e W3 ⟨rfl, hb3⟩
    have HB3 := hide hb3
    have HST3 := hide (show FixSt w.heap.size w1.heap.size R C (.slice (some ⟨gv, 0, none⟩) R cv) f0 (pre ++ [m]) A W3 from ⟨HIFF.out, (hb3.block _ HB2.out.lt).trans HB2.out, ownMat_below HO2.out hb3⟩)
    have HGV := hide (show ItOnly A W W3 from ⟨hb3.os.trans HW2.out.os, hb3.tape.trans HW2.out.tape, hb3.output.trans HW2.out.output, Nat.le_trans HW2.out.size hb3.size, fun k hk hn => by
      rw [hb3.block k (Nat.lt_of_lt_of_le hk HW2.out.size)]
      exact HW2.out.block k hk (by
        by_cases h : k < w.heap.size
        · exact .inl h
        · exact .inr (Nat.le_of_not_lt fun h2 => hn ((HIFF.out.1 k).2 ⟨by omega, by omega⟩)))⟩)
    clear hb3 hcu2
    by_cases hz : atLeast 0 (mkM R C (fixF f0 (pre ++ [m]))).flatten = 0
    · have HZ := hide hz
      rw [hz]
      clear hz
      gi_wp2
      have hb0 : Below w.heap.size w W3 := ⟨HGV.out.os.trans HBW0.out.os, HGV.out.tape.trans HBW0.out.tape, HGV.out.output.trans HBW0.out.output, Nat.le_trans HBW0.out.size HGV.out.size, fun k hk => by rw [HGV.out.block k (Nat.lt_of_lt_of_le hk HBW0.out.size) (fun ha => by have := (HIFF.out.1 k).1 ha; omega)]; exact HBW0.out.block k hk⟩
      exact ⟨A, ⟨rfl, HST3.out, HZ.out, hb0⟩, HGV.out.size, fun k hk1 hk2 hn => HGV.out.block k hk2 hn, fun k hk => .inl hk⟩
    · obtain ⟨z, hzz⟩ : ∃ z, z = atLeast 0 (mkM R C (fixF f0 (pre ++ [m]))).flatten := ⟨_, rfl⟩
      rw [← hzz] at hz ⊢
      have hz2 : ((z : Int) == 0) = false := by simp; omega
      clear hzz
      gi_wp2
      exact ⟨A, HST3.out, HGV.out, fun k hk => .inl hk⟩
  case done =>
    intro A W hi hst _ hmk
    have hcu := hi.2.1.cell
    have HMK := hide hmk
    have HOW9 := hide hi.2.2
    have HBB := hide (below_itStep B3.out (fun k hk => hk.1) hst)
    have hsz : w1.heap.size < W.heap.size := hi.2.1.lt
    clear hi hst hmk
    gi_wp2
    refine ⟨by simp, .inl ⟨_, _, rfl, run_takeDeferred HMK.out, ?_⟩⟩
    exact ⟨_, results_tmp rfl _ _ _, _, rfl, ownMat_mono (ownMat_putObj _ HOW9.out HMK.out rfl) (Nat.le_refl _) (by simp; omega), below_putObj HBB.out B3.out.size _⟩
  case stop =>
    rintro cc pre A W ⟨t, ht⟩ ⟨rfl, hi, hz, hb0⟩ hA3 hmk
    have hcu := hi.2.1.cell
    have HMK := hide hmk
    have hall := all_free (t := t) H01.out hz
    rw [ht] at hall
    have HOW9 := hide (show OwnMat W w.heap.size w1.heap.size (.slice (some ⟨gv, 0, none⟩) R cv) (mkM R C (fixF f0 (allL r c))) by rw [hall]; exact hi.2.2)
    have HBB := hide hb0
    have hsz : w1.heap.size < W.heap.size := hi.2.1.lt
    clear hi hz hb0 hA3 hmk hall ht
    gi_wp2
    refine ⟨by simp, .inl ⟨_, _, rfl, run_takeDeferred HMK.out, ?_⟩⟩
    exact ⟨_, results_tmp rfl _ _ _, _, rfl, ownMat_mono (ownMat_putObj _ HOW9.out HMK.out rfl) (Nat.le_refl _) (by simp; omega), below_putObj HBB.out B3.out.size _⟩

set_option maxHeartbeats 400000 in
theorem implFixed_any (va vb : Value) (r c : List Int) (w : World) (ha : RowC w va r) (hb : RowC w vb c) :
    Calls Tryz.prog 39 #[va, vb] w (MatRes (fixedIm r c) w) := by
  cases h : existsOf r c with
  | true => exact implFixed_yes va vb r c w ha hb h
  | false =>
    have HLI := hide (implLeast_any va vb r c w ha hb)
    rw [h, if_neg (by decide)] at HLI
    rw [fixedIm, if_neg (by rw [h]; decide)]
    clear h
    refine (callsIn_wide (n := 0)).1 ?_
    refine callsIn_of_wp_marks Tryz.func39 rfl trivial ?_ rfl
    simp only [Tryz.ntmps39, List.size_toArray, List.length_cons, List.length_nil, Nat.reduceAdd, Nat.reduceSub, Array.replicate_succ, Array.replicate_zero, List.push_toArray, List.append_toArray, List.nil_append, List.cons_append]
    gi_wp2_with fail
    refine ⟨trivial, rfl, (callsIn_wide (n := 0)).2 (HLI.out.mono ?_)⟩
    rintro e w1 ⟨v, rfl, hown, hb1⟩
    obtain ⟨av, cv, rfl⟩ : ∃ a cp, v = .slice a 0 cp := by obtain ⟨vs, hv, -⟩ := hown; exact own_slice hv
    have B1 := hide hb1
    clear hown hb1
    gi_wp2
    exact ⟨_, results_tmp rfl _ _ _, _, rfl, ownMat_nil _ _ _, B1.out.alloc B1.out.size _⟩
end Go.Proofs.YtcliiefedmiokaaGreat
/-
  The program's images: size, lists.
-/
namespace Go.Proofs.YtcliiefedmiokaaGreat
open Go.RowKit

set_option maxHeartbeats 400000 in
theorem size_any (G : Nat → Int) (n : Nat) (w : World) (hn : n ≤ 5) (h1 : ∀ j, j < n → G j ≠ -1) (h2 : n = 5 ∨ G n = -1) :
    Calls Tryz.prog 123 #[.agg (vec 5 G)] w fun e w' => e = .returned (.int .i64 n) ∧ Below w.heap.size w w' := by
  have N1 := hide h1; have N2 := hide h2
  clear h1 h2
  go_enter Tryz.func123, Tryz.ntmps123
  go_wp2_with (with_reducible refine wpList_boxVec 5 G 1 rfl rfl (.tmp 0) rfl rfl ?_; intro w1 h1 b1 s1)
  have H1 := hide h1; have B1 := hide b1
  clear h1 b1
  go_loop [3] (fun i => ∃ k : Nat, k ≤ n ∧ i = .int .i64 k) (fun i => n - (intOf i).toNat)
  case atStart => exact ⟨0, by omega, rfl⟩
  case round =>
    obtain ⟨k, hk, rfl⟩ := hrel
    by_cases hlt : k < n
    · have hx := blk_cell H1.out k (by omega)
      have hne := N1.out k hlt
      obtain ⟨y, hy⟩ : ∃ y, y = G k := ⟨_, rfl⟩
      rw [← hy] at hx hne
      have hb : (y != -1) = true := by simpa using hne
      have h5 : (k : Int) < 5 := by omega
      clear hy hne
      go_wp2
      go_round
      case rel => exact ⟨k + 1, by omega, by go_num⟩
      case measure => simp [intOf]; omega
    · obtain rfl : k = n := by omega
      by_cases h5 : k < 5
      · have hx := blk_cell H1.out k h5
        rw [N2.out.resolve_left (by omega)] at hx
        have h5' : (k : Int) < 5 := by omega
        go_wp2
        go_ret
        exact ⟨rfl, B1.out⟩
      · have h5' : ¬ (k : Int) < 5 := by omega
        go_wp2
        go_ret
        exact ⟨rfl, B1.out⟩

/-- A row of the padded image. -/
theorem imgF_row (R C : Nat) (f : Nat → Nat → Int) (y : Nat) : ∀ j, j < 5 → imgF R C f (y * 5 + j) = if y < R ∧ j < C then f y j else -1 := fun j hj => by
  rw [show y * 5 + j = 5 * y + j by omega, imgF_at R C f y j hj]

theorem ownMat_block {w w' : World} {lo hi g : Nat} {v : Value} {m : List (List Int)} (h : OwnMat w lo hi v m) (hg : w.grownBy w' (some g)) (hh : hi ≤ g) : OwnMat w' lo hi v m :=
  ownMat_within h (within_grown (lo := g) (hi := g + 1) hg fun k hk => by cases hk; exact ⟨Nat.le_refl _, Nat.lt_succ_self _⟩) (.inl hh)

set_option maxRecDepth 100000 in
set_option maxHeartbeats 1000000 in
theorem lists_any (R C : Nat) (f : Nat → Nat → Int) (w : World) (hI : Img R C f) :
    Calls Tryz.prog 90 #[.agg (vec 25 (imgF R C f))] w fun e w' => ∃ v, e = .returned v ∧ OwnMat w' w.heap.size w'.heap.size v (mkM R C f) ∧ Below w.heap.size w w' := by
  have hR := hI.r2; have hC := hI.c2; have hC1 := hI.c1
  have HI := hide hI
  clear hI
  go_enter Tryz.func90, Tryz.ntmps90
  go_wp2_with (first | (with_reducible refine wpList_boxVec 25 (imgF R C f) 1 rfl rfl (.tmp 0) rfl rfl ?_; intro w1 h1 b1 s1) | (with_reducible refine wpList_loadVec h1 7 rfl rfl _ rfl rfl Tryz.underlying84 Tryz.sizeImg ?_))
  have B1 := hide b1
  clear h1 b1 s1
  go_loopw [3, 8] (fun o i w' => ∃ (y : Nat) (v : Value), y ≤ 5 ∧ i = .int .i64 y ∧ v = o ∧ OwnMat w' w.heap.size w'.heap.size v (mkM (min y R) C f) ∧ Below w.heap.size w w') (fun _ i _ => 5 - (intOf i).toNat)
  case atStart => exact ⟨0, _, by omega, rfl, rfl, by rw [Nat.zero_min]; exact ownMat_nil _ _ _, B1.out⟩
  case round =>
    clear B1
    obtain ⟨y, v, hy, rfl, rfl, hown, hb⟩ := hrel
    have HO := hide hown; have HB := hide hb
    clear hown hb
    by_cases hlt : y < 5
    · have hyI : (y : Int) < 5 := by omega
      have HG := hide (imgF_row R C f y)
      have hsz := HB.out.size
      go_wp2_with (first | (with_reducible refine wpList_indexRow y 10 rfl rfl _ _ rfl rfl rfl Tryz.underlying84 Tryz.isAgg82 Tryz.sizeOf82 hlt (by omega) ?_) | (with_reducible refine wpList_allocVec 5 5 rfl rfl rfl Tryz.zeroRow ?_; intro w2 h2 b2 s2) | (with_reducible refine wpList_storeVec h2 rfl (.tmp 5) (.tmp 10) rfl rfl rfl Tryz.sizeRow ?_; intro w3 h3 g3 s3) | (with_reducible refine wpList_loadVec h3 11 rfl rfl _ rfl rfl Tryz.underlying82 Tryz.sizeRow ?_))
      have B3 := hide (HB.out.trans ((b2.mono hsz).trans (grown_below g3 (fun k hk => by cases hk; exact hsz) (by omega))))
      have O3 := hide (ownMat_block (ownMat_below HO.out b2) g3 (Nat.le_refl _))
      have H3 := hide h3
      have hs3 : w3.heap.size = wr.heap.size + 1 := by omega
      clear h2 b2 s2 h3 g3 s3
      by_cases hr : y < R
      · go_wp2_with fail
        refine (size_any _ C _ hC (fun j hj => ?_) ?_).mono ?_
        · rw [HG.out j (by omega), if_pos ⟨hr, hj⟩]
          rcases HI.out.cell y j hr hj with e | e <;> rw [e] <;> decide
        · by_cases e : C = 5
          · exact .inl e
          · right; rw [HG.out C (by omega), if_neg (by omega)]
        rintro e w4 ⟨rfl, b4⟩
        have H4 := hide (blk_below H3.out b4)
        have O4 := hide (ownMat_below O3.out b4)
        have B4 := hide (B3.out.trans (b4.mono (by omega)))
        have hs4 := b4.size
        clear b4
        have hpos : (0 : Int) < (C : Int) := by omega
        go_wp2_with (with_reducible refine wpList_sliceVec C 17 rfl rfl (.tmp 5) (.tmp 16) rfl rfl rfl Tryz.underlying82 Tryz.sizeOf3 hC ?_)
        refine (Tryz.slices_Clone_int wr.heap.size 0 C 5 (rowF C (f y)) _ (by rw [rowF_len]; exact Nat.le_refl _) (by omega) (fun j hj => ?_)).mono ?_
        · rw [rowF_len] at hj
          rw [Nat.zero_add, blk_cell H4.out j (by omega), HG.out j (by omega), if_pos ⟨hr, hj⟩, List.getD_eq_getElem?_getD, List.getElem?_eq_getElem (by rw [rowF_len]; exact hj), Option.getD_some, rowF_at]
        rintro e w5 ⟨u, rfl, hu, -, b5⟩
        have hu : w5.ownsRow w4.heap.size 3 1 u (rowF C (f y)).length (ints (rowF C (f y))) := by
          rw [rowF_len]
          have := hu
          rw [List.take_of_length_le (by rw [rowF_len]; exact Nat.le_refl _)] at this
          exact this
        obtain ⟨ua, uc, rfl⟩ := own_slice hu
        rw [rowF_len] at *
        have HU := hide hu
        have O5 := hide (ownMat_below O4.out b5)
        have B5 := hide (B4.out.trans (b5.mono (by omega)))
        have hs5 := b5.size
        clear hu b5
        have hmin : min y R = y := by omega
        rw [hmin] at O5
        clear hmin
        obtain ⟨vs, hv, hvh, hvr, hva⟩ := O5.out
        have hvl := mkM_len y C f
        rw [hvl] at hv
        have HV := hide hv; have HVH := hide hvh; have HVR := hide hvr; have HVA := hide hva
        clear hv hvh hvr hva hvl
        go_wp2_with (at_builtin; refine wpList_push HV.out (.slice ua C uc) (.slice none 0 0) rfl _ _ rfl Tryz.underlying22 Tryz.infoInts rfl (by decide) rfl rfl rfl (by omega) (by omega) ?_; intro v' w6 hown1 hb1 hg1)
        go_roundw
        case rel =>
          have hs6 := hb1.size
          have hp := ownMat_push (r := rowF C (f y)) (hi' := w6.heap.size) HVR.out HVA.out (by rw [mkM_len]; exact HV.out) (by rw [rowF_len]; exact own_base HU.out (by omega)) hsz (by omega) (by omega) hg1 (by rw [mkM_len]; exact hown1) (fun k e => (hown1.lt k e).2)
          rw [← mkM_succ, show y + 1 = min (y + 1) R by omega] at hp
          exact ⟨y + 1, _, by omega, by go_num, rfl, hp, B5.out.trans (hb1.mono (by omega))⟩
        case measure => simp [intOf]; omega
      · go_wp2_with fail
        refine (size_any _ 0 _ (by omega) (fun j hj => absurd hj (Nat.not_lt_zero _)) (.inr ?_)).mono ?_
        · rw [HG.out 0 (by omega), if_neg (by omega)]
        rintro e w4 ⟨rfl, b4⟩
        have O4 := hide (ownMat_below O3.out b4)
        have B4 := hide (B3.out.trans (b4.mono (by omega)))
        have hs4 := b4.size
        clear b4
        go_wp2
        go_roundw
        case rel =>
          have hp := ownMat_mono (hi' := w4.heap.size) O4.out (Nat.le_refl _) (by omega)
          rw [show min y R = min (y + 1) R by omega] at hp
          exact ⟨y + 1, _, by omega, by go_num, rfl, hp, B4.out⟩
        case measure => simp [intOf]; omega
    · have hmin : min y R = R := by omega
      rw [hmin] at HO
      clear hmin
      go_wp2
      go_ret
      exact ⟨_, rfl, HO.out, HB.out⟩
end Go.Proofs.YtcliiefedmiokaaGreat
/-
  The program's images: cell, count, transposed, inverted, distance.
-/
namespace Go.Proofs.YtcliiefedmiokaaGreat
open Go.RowKit

theorem row_below {w wr w2 w3 : World} (hb : Below w.heap.size w wr) (b2 : Below wr.heap.size wr w2) (g3 : w2.grownBy w3 (some wr.heap.size)) : Below w.heap.size w w3 :=
  hb.trans ((b2.mono hb.size).trans (grown_below g3 (fun k hk => by cases hk; exact hb.size) (Nat.le_trans hb.size b2.size)))
theorem row_blk {wr w2 w3 : World} {g n : Nat} {T : TypeId} {F : Nat → Int} (h : Blk wr g T n F) (b2 : Below wr.heap.size wr w2) (g3 : w2.grownBy w3 (some wr.heap.size)) : Blk w3 g T n F :=
  blk_grown (blk_below h b2) g3 (by have := blk_lt h; simp; omega)

set_option maxHeartbeats 400000 in
theorem cell_in (F : Nat → Int) (y x : Nat) (w : World) (hy : y < 5) (hx : x < 5) :
    Calls Tryz.prog 108 #[.agg (vec 25 F), .int .i64 y, .int .i64 x] w fun e w' => e = .returned (.int .i64 (F (5 * y + x))) ∧ Below w.heap.size w w' := by
  have hyI : (y : Int) < 5 := by omega
  have hxI : (x : Int) < 5 := by omega
  have HA : Hid (0 + y * 5 + x * 1 = 5 * y + x) := hide (by omega)
  have hlt : 5 * y + x < 25 := by omega
  go_enter Tryz.func108, Tryz.ntmps108
  go_wp2_with (first | (with_reducible refine wpList_boxVec 25 F 3 rfl rfl (.tmp 0) rfl rfl ?_; intro w1 h1 b1 s1; have hcl := blk_cell h1 (5 * y + x) hlt) | (with_reducible refine wpList_indexAt y 23 rfl rfl _ _ rfl rfl rfl Tryz.underlying84 Tryz.sizeOf82 hy ?_) | (with_reducible refine wpList_indexAt x 24 rfl rfl _ _ rfl rfl rfl Tryz.underlying82 Tryz.sizeOf3 hx ?_; rw [HA.out]))
  go_ret
  exact ⟨rfl, b1⟩
set_option maxHeartbeats 400000 in
theorem cell_out (F : Nat → Int) (y x : Int) (w : World) (h : y < 0 ∨ 5 ≤ y ∨ x < 0 ∨ 5 ≤ x) :
    Calls Tryz.prog 108 #[.agg (vec 25 F), .int .i64 y, .int .i64 x] w fun e w' => e = .returned (.int .i64 (-1)) ∧ Below w.heap.size w w' := by
  by_cases h1 : y < 0
  · clear h
    go_enter Tryz.func108, Tryz.ntmps108
    go_wp2_with (with_reducible refine wpList_boxVec 25 F 3 rfl rfl (.tmp 0) rfl rfl ?_; intro w1 h1 b1 s1)
    go_ret
    exact ⟨rfl, b1⟩
  · by_cases h2 : 5 ≤ y
    · clear h
      go_enter Tryz.func108, Tryz.ntmps108
      go_wp2_with (with_reducible refine wpList_boxVec 25 F 3 rfl rfl (.tmp 0) rfl rfl ?_; intro w1 h1 b1 s1)
      go_ret
      exact ⟨rfl, b1⟩
    · by_cases h3 : x < 0
      · clear h
        go_enter Tryz.func108, Tryz.ntmps108
        go_wp2_with (with_reducible refine wpList_boxVec 25 F 3 rfl rfl (.tmp 0) rfl rfl ?_; intro w1 h1 b1 s1)
        go_ret
        exact ⟨rfl, b1⟩
      · have h4 : 5 ≤ x := by omega
        clear h
        go_enter Tryz.func108, Tryz.ntmps108
        go_wp2_with (with_reducible refine wpList_boxVec 25 F 3 rfl rfl (.tmp 0) rfl rfl ?_; intro w1 h1 b1 s1)
        go_ret
        exact ⟨rfl, b1⟩

/-- The first y columns of the exchanged image, and x cells of the next one. -/
def upT (F : Nat → Int) (y x : Nat) (i : Nat) : Int := if i % 5 < y ∨ (i % 5 = y ∧ i / 5 < x) then F (5 * (i % 5) + i / 5) else 0
theorem upT_zero (F : Nat → Int) : upT F 0 0 = fun _ => 0 := by funext i; rw [upT, if_neg (by omega)]
theorem upT_set (F : Nat → Int) (y x : Nat) (hy : y < 5) : (fun j => if j = 5 * x + y then F (5 * y + x) else upT F y x j) = upT F y (x + 1) := by
  funext j
  simp only [upT]
  by_cases e : j = 5 * x + y
  · subst e
    rw [if_pos rfl, if_pos (by omega), show (5 * x + y) % 5 = y by omega, show (5 * x + y) / 5 = x by omega]
  · rw [if_neg e]
    by_cases hl : j % 5 < y ∨ (j % 5 = y ∧ j / 5 < x)
    · rw [if_pos hl, if_pos (by omega)]
    · rw [if_neg hl, if_neg (by omega)]
theorem upT_next (F : Nat → Int) (y : Nat) : ∀ i, i < 25 → upT F y 5 i = upT F (y + 1) 0 i := fun i hi => by
  simp only [upT]
  by_cases hl : i % 5 < y + 1
  · rw [if_pos (by omega), if_pos (by omega)]
  · rw [if_neg (by omega), if_neg (by omega)]
theorem upT_all (F : Nat → Int) : ∀ i, i < 25 → upT F 5 0 i = F (5 * (i % 5) + i / 5) := fun i hi => by rw [upT, if_pos (by omega)]

set_option maxHeartbeats 1000000 in
theorem transposed_any (F : Nat → Int) (w : World) :
    Calls Tryz.prog 89 #[.agg (vec 25 F)] w fun e w' => e = .returned (.agg (vec 25 fun i => F (5 * (i % 5) + i / 5))) ∧ Below w.heap.size w w' := by
  go_enter Tryz.func89, Tryz.ntmps89
  go_wp2_with (first | (with_reducible refine wpList_boxVec 25 F 1 rfl rfl (.tmp 0) rfl rfl ?_; intro w1 h1 b1 s1) | (with_reducible refine wpList_allocVec 25 2 rfl rfl rfl Tryz.zeroImg ?_; intro wa ha ba sa) | (with_reducible refine wpList_allocVec 25 3 rfl rfl rfl Tryz.zeroImg ?_; intro wb hb bb sb) | (with_reducible refine wpList_loadVec (blk_below (blk_below h1 ba) bb) 8 rfl rfl _ rfl rfl Tryz.underlying84 Tryz.sizeImg ?_))
  have B1 := hide (b1.trans ((ba.mono (by omega)).trans (bb.mono (by omega))))
  have HR := hide (blk_below ha bb)
  have HP := hide hb
  have hsz : w.heap.size + 2 < wb.heap.size := by omega
  rw [s1] at HR sa
  rw [sa] at HP
  rw [show w.heap.size + 1 + 1 = w.heap.size + 2 by omega] at HP
  clear h1 b1 ha ba hb bb sb s1 sa
  go_loopw [9] (fun i w' => ∃ y : Nat, y ≤ 5 ∧ i = .int .i64 y ∧ Blk w' (w.heap.size + 2) 84 25 (upT F y 0) ∧ Blk w' (w.heap.size + 1) 84 25 (fun _ => 0) ∧ Below w.heap.size w w') (fun i _ => 5 - (intOf i).toNat)
  case atStart => exact ⟨0, by omega, rfl, by rw [upT_zero]; exact HP.out, HR.out, B1.out⟩
  case round =>
    clear B1 HP HR hsz
    obtain ⟨y, hy, rfl, hp, hr, hb⟩ := hrel
    have HP := hide hp; have HR := hide hr; have HB := hide hb
    clear hp hr hb
    by_cases hlt : y < 5
    · have hyI : (y : Int) < 5 := by omega
      go_wp2_with (first | (with_reducible refine wpList_indexRow y 12 rfl rfl _ _ rfl rfl rfl Tryz.underlying84 Tryz.isAgg82 Tryz.sizeOf82 hlt (by omega) ?_) | (with_reducible refine wpList_allocVec 5 5 rfl rfl rfl Tryz.zeroRow ?_; intro w2 h2 b2 s2) | (with_reducible refine wpList_storeVec h2 rfl (.tmp 5) (.tmp 12) rfl rfl rfl Tryz.sizeRow ?_; intro w3 h3 g3 s3) | (with_reducible refine wpList_loadVec h3 13 rfl rfl _ rfl rfl Tryz.underlying82 Tryz.sizeRow ?_))
      have B3 := hide (row_below HB.out b2 g3)
      have P3 := hide (row_blk HP.out b2 g3)
      have R3 := hide (row_blk HR.out b2 g3)
      clear h2 b2 s2 h3 g3 s3
      go_loopw [14] (fun i w' => ∃ x : Nat, x ≤ 5 ∧ i = .int .i64 x ∧ Blk w' (w.heap.size + 2) 84 25 (upT F y x) ∧ Blk w' (w.heap.size + 1) 84 25 (fun _ => 0) ∧ Below w.heap.size w w') (fun i _ => 5 - (intOf i).toNat)
      case atStart => exact ⟨0, by omega, rfl, P3.out, R3.out, B3.out⟩
      case round =>
        clear B3 P3 R3 HB HP HR
        obtain ⟨x, hx, rfl, hp, hr, hb⟩ := hrel
        have HP := hide hp; have HR := hide hr; have HB := hide hb
        clear hp hr hb
        by_cases hlx : x < 5
        · have hxI : (x : Int) < 5 := by omega
          have HS := hide (upT_set F y x hlt)
          have hcl := blk_cell HP.out (5 * x + y) (by omega)
          have hfr := blk_frozen HP.out (5 * x + y)
          have HA : Hid (0 + x * 5 + y * 1 = 5 * x + y) := hide (by omega)
          have HE : Hid (y * 5 + x = 5 * y + x) := hide (by omega)
          go_wp2_with (first | (with_reducible refine wpList_indexVec x 17 rfl rfl _ _ rfl rfl rfl Tryz.underlying82 Tryz.isAgg3 Tryz.sizeOf3 hlx ?_; rw [HE.out]) | (with_reducible refine wpList_indexAt x 21 rfl rfl _ _ rfl rfl rfl Tryz.underlying84 Tryz.sizeOf82 hlx ?_) | (with_reducible refine wpList_indexAt y 22 rfl rfl _ _ rfl rfl rfl Tryz.underlying82 Tryz.sizeOf3 hlt ?_; rw [HA.out]))
          go_roundw
          case rel => exact ⟨x + 1, by omega, by go_num, by have := blk_set HP.out (5 * x + y) (F (5 * y + x)); rw [HS.out] at this; exact this, blk_other HR.out _ _ (by simp), HB.out.setCell (by show w.heap.size ≤ w.heap.size + 2; omega) _⟩
          case measure => simp [intOf]; omega
        · obtain rfl : x = 5 := by omega
          go_wp2
          go_roundw
          case rel => exact ⟨y + 1, by omega, by go_num, blk_congr HP.out (upT_next F y), HR.out, HB.out⟩
          case measure => simp [intOf]; omega
    · obtain rfl : y = 5 := by omega
      have HP := hide (blk_congr HP.out (upT_all F))
      go_wp2_with (first | (with_reducible refine wpList_loadVec HP.out 25 rfl rfl _ rfl rfl Tryz.underlying84 Tryz.sizeImg ?_) | (with_reducible refine wpList_storeVec HR.out rfl (.tmp 2) (.tmp 25) rfl rfl rfl Tryz.sizeImg ?_; intro w4 h4 g4 s4))
      refine bodyPost_ret (results_vec rfl _ _ (w.heap.size + 1) 25 _ 84 _ _ rfl h4 Tryz.underlying84 Tryz.sizeImg) rfl ⟨rfl, ?_⟩
      exact HB.out.trans (grown_below g4 (fun k hk => by cases hk; exact Nat.le_succ _) HB.out.size)
end Go.Proofs.YtcliiefedmiokaaGreat
/-
  The program's images: inverted, distance, mirrored.
-/
namespace Go.Proofs.YtcliiefedmiokaaGreat
open Go.RowKit

def invN (v : Int) : Int := if v = -1 then -1 else 1 - v
def upI (F : Nat → Int) (k : Nat) (i : Nat) : Int := if i < k then invN (F i) else F i
theorem upI_zero (F : Nat → Int) : upI F 0 = F := by funext i; simp [upI]
theorem upI_set (F : Nat → Int) (k : Nat) (v : Int) (h : invN (F k) = v) : (fun j => if j = k then v else upI F k j) = upI F (k + 1) := by
  funext j
  simp only [upI]
  by_cases e : j = k
  · subst e; simp [h]
  · rw [if_neg e]
    by_cases hl : j < k
    · rw [if_pos hl, if_pos (by omega)]
    · rw [if_neg hl, if_neg (by omega)]
theorem upI_skip (F : Nat → Int) (k : Nat) (h : F k = -1) : upI F k = upI F (k + 1) := by
  funext j
  simp only [upI]
  by_cases hl : j < k
  · rw [if_pos hl, if_pos (by omega)]
  · by_cases e : j = k
    · subst e; simp [h, invN]
    · rw [if_neg hl, if_neg (by omega)]
theorem upI_all (F : Nat → Int) : ∀ i, i < 25 → upI F (5 * 5) i = invN (F i) := fun i hi => by rw [upI, if_pos (by omega)]

/-- What distance answers: the number, and whether the sizes are the same. -/
def DistRes (b : Bool) (n : Nat) (w : World) (e : Ending) (w' : World) : Prop := e = .returned (.tuple #[.int .i64 (if b then n else 0 : Nat), .bool b]) ∧ Below w.heap.size w w'
theorem dist_no {b : Bool} {n : Nat} {w : World} {w' : World} (hb : b = false) (h : Below w.heap.size w w') : DistRes b n w (.returned (.tuple #[.int .i64 0, .bool false])) w' := by subst hb; exact ⟨rfl, h⟩
set_option maxHeartbeats 1000000 in
theorem distance_any (F G : Nat → Int) (b : Bool) (w : World) (hb : b = true ↔ ∀ i, i < 25 → (F i = -1 ↔ G i = -1)) :
    Calls Tryz.prog 69 #[.agg (vec 25 F), .agg (vec 25 G)] w (DistRes b (cnt (fun i => F i != G i) 25) w) := by
  obtain ⟨p, hp⟩ : ∃ p : Nat → Bool, p = fun i => F i != G i := ⟨_, rfl⟩
  have hpp : Hid (∀ i, p i = (F i != G i)) := hide fun i => by rw [hp]
  rw [← hp]
  clear hp
  have HH := hide hb
  clear hb
  go_enter Tryz.func69, Tryz.ntmps69
  go_wp2_with (first | (with_reducible refine wpList_boxVec 25 F 2 rfl rfl (.tmp 0) rfl rfl ?_; intro w1 h1 b1 s1) | (with_reducible refine wpList_boxVec 25 G 3 rfl rfl (.tmp 1) rfl rfl ?_; intro wa ha ba sa) | (with_reducible refine wpList_loadVec (blk_below h1 ba) 11 rfl rfl _ rfl rfl Tryz.underlying84 Tryz.sizeImg ?_))
  have B1 := hide (b1.trans (ba.mono (by omega)))
  have HP := hide ha
  rw [s1] at HP
  clear h1 b1 ha ba s1 sa
  go_loopw [6, 12] (fun n i w' => ∃ y : Nat, y ≤ 5 ∧ i = .int .i64 y ∧ n = .int .i64 (cnt p (5 * y)) ∧ (∀ i, i < 5 * y → (F i = -1 ↔ G i = -1)) ∧ Blk w' (w.heap.size + 1) 84 25 G ∧ Below w.heap.size w w') (fun _ i _ => 5 - (intOf i).toNat)
  case atStart => exact ⟨0, by omega, rfl, rfl, fun i h => absurd h (Nat.not_lt_zero _), HP.out, B1.out⟩
  case round =>
    clear B1 HP
    obtain ⟨y, hy, rfl, rfl, hall, hp, hb⟩ := hrel
    have HP := hide hp; have HB := hide hb; have HL := hide hall
    clear hp hb hall
    by_cases hlt : y < 5
    · have hyI : (y : Int) < 5 := by omega
      go_wp2_with (first | (with_reducible refine wpList_indexRow y 15 rfl rfl _ _ rfl rfl rfl Tryz.underlying84 Tryz.isAgg82 Tryz.sizeOf82 hlt (by omega) ?_) | (with_reducible refine wpList_allocVec 5 8 rfl rfl rfl Tryz.zeroRow ?_; intro w2 h2 b2 s2) | (with_reducible refine wpList_storeVec h2 rfl (.tmp 8) (.tmp 15) rfl rfl rfl Tryz.sizeRow ?_; intro w3 h3 g3 s3) | (with_reducible refine wpList_loadVec h3 16 rfl rfl _ rfl rfl Tryz.underlying82 Tryz.sizeRow ?_))
      have B3 := hide (row_below HB.out b2 g3)
      have P3 := hide (row_blk HP.out b2 g3)
      clear h2 b2 s2 h3 g3 s3
      go_loopw [6, 17] (fun n i w' => ∃ x : Nat, x ≤ 5 ∧ i = .int .i64 x ∧ n = .int .i64 (cnt p (5 * y + x)) ∧ (∀ i, i < 5 * y + x → (F i = -1 ↔ G i = -1)) ∧ Blk w' (w.heap.size + 1) 84 25 G ∧ Below w.heap.size w w') (fun _ i _ => 5 - (intOf i).toNat)
      case atStart => exact ⟨0, by omega, rfl, rfl, HL.out, P3.out, B3.out⟩
      case round =>
        clear B3 P3 HB HP HL
        obtain ⟨x, hx, rfl, rfl, hall, hp, hb⟩ := hrel
        have HP := hide hp; have HB := hide hb; have HL := hide hall
        clear hp hb hall
        have hle := cnt_le p (5 * y + x)
        by_cases hlx : x < 5
        · have hxI : (x : Int) < 5 := by omega
          have hcl := blk_cell HP.out (5 * y + x) (by omega)
          have HA : Hid (0 + y * 5 + x * 1 = 5 * y + x) := hide (by omega)
          have HE : Hid (y * 5 + x = 5 * y + x) := hide (by omega)
          have HQ := hide (hpp.out (5 * y + x))
          have HN : (F (5 * y + x) = -1 ↔ G (5 * y + x) = -1) → ∀ i, i < 5 * y + (x + 1) → (F i = -1 ↔ G i = -1) := fun h i hi => by
            by_cases e : i = 5 * y + x
            · subst e; exact h
            · exact HL.out i (by omega)
          have HN := hide HN
          have HF0 : Hid (¬ (F (5 * y + x) = -1 ↔ G (5 * y + x) = -1) → b = false) := hide fun h => by
            cases hbb : b with
            | false => rfl
            | true => exact absurd (HH.out.1 hbb (5 * y + x) (by omega)) h
          obtain ⟨s, hs⟩ : ∃ s, s = F (5 * y + x) := ⟨_, rfl⟩
          obtain ⟨t, ht⟩ : ∃ t, t = G (5 * y + x) := ⟨_, rfl⟩
          have HSV := hide hs.symm
          rw [← hs, ← ht] at HQ HN HF0
          rw [← ht] at hcl
          clear hs ht
          by_cases hs1 : s = -1
          · have q1 : (s == -1) = true := by simpa using hs1
            by_cases ht1 : t = -1
            · have q2 : (t == -1) = true := by simpa using ht1
              have HST : Hid (s = t) := hide (by rw [hs1, ht1])
              have q3 : (s != t) = false := by simp [hs1, ht1]
              have HC := hide (cnt_no (p := p) (k := 5 * y + x) (by rw [HQ.out]; exact q3))
              have HN2 := hide (HN.out ⟨fun _ => ht1, fun _ => hs1⟩)
              subst hs1 ht1
              clear q1 q2 q3
              go_wp2_with (first | (with_reducible refine wpList_indexVec x 20 rfl rfl _ _ rfl rfl rfl Tryz.underlying82 Tryz.isAgg3 Tryz.sizeOf3 hlx ?_; rw [HE.out, HSV.out]) | (with_reducible refine wpList_indexAt y 25 rfl rfl _ _ rfl rfl rfl Tryz.underlying84 Tryz.sizeOf82 hlt ?_) | (with_reducible refine wpList_indexAt x 26 rfl rfl _ _ rfl rfl rfl Tryz.underlying82 Tryz.sizeOf3 hlx ?_; rw [HA.out]) | (with_reducible refine wpList_indexAt y 33 rfl rfl _ _ rfl rfl rfl Tryz.underlying84 Tryz.sizeOf82 hlt ?_) | (with_reducible refine wpList_indexAt x 34 rfl rfl _ _ rfl rfl rfl Tryz.underlying82 Tryz.sizeOf3 hlx ?_; rw [HA.out]))
              go_roundw
              case rel => exact ⟨x + 1, by omega, by go_num, by rw [← Nat.add_assoc, HC.out], HN2.out, HP.out, HB.out⟩
              case measure => simp [intOf]; omega
            · have q2 : (t == -1) = false := by simpa using ht1
              have HB0 := hide (HF0.out (fun h => ht1 (h.1 hs1)))
              subst hs1
              clear q1 ht1
              go_wp2_with (first | (with_reducible refine wpList_indexVec x 20 rfl rfl _ _ rfl rfl rfl Tryz.underlying82 Tryz.isAgg3 Tryz.sizeOf3 hlx ?_; rw [HE.out, HSV.out]) | (with_reducible refine wpList_indexAt y 25 rfl rfl _ _ rfl rfl rfl Tryz.underlying84 Tryz.sizeOf82 hlt ?_) | (with_reducible refine wpList_indexAt x 26 rfl rfl _ _ rfl rfl rfl Tryz.underlying82 Tryz.sizeOf3 hlx ?_; rw [HA.out]) | (with_reducible refine wpList_indexAt y 33 rfl rfl _ _ rfl rfl rfl Tryz.underlying84 Tryz.sizeOf82 hlt ?_) | (with_reducible refine wpList_indexAt x 34 rfl rfl _ _ rfl rfl rfl Tryz.underlying82 Tryz.sizeOf3 hlx ?_; rw [HA.out]))
              go_ret2
              exact dist_no HB0.out HB.out
          · have q1 : (s == -1) = false := by simpa using hs1
            by_cases ht1 : t = -1
            · have HB0 := hide (HF0.out (fun h => hs1 (h.2 ht1)))
              subst ht1
              clear hs1
              go_wp2_with (first | (with_reducible refine wpList_indexVec x 20 rfl rfl _ _ rfl rfl rfl Tryz.underlying82 Tryz.isAgg3 Tryz.sizeOf3 hlx ?_; rw [HE.out, HSV.out]) | (with_reducible refine wpList_indexAt y 25 rfl rfl _ _ rfl rfl rfl Tryz.underlying84 Tryz.sizeOf82 hlt ?_) | (with_reducible refine wpList_indexAt x 26 rfl rfl _ _ rfl rfl rfl Tryz.underlying82 Tryz.sizeOf3 hlx ?_; rw [HA.out]) | (with_reducible refine wpList_indexAt y 33 rfl rfl _ _ rfl rfl rfl Tryz.underlying84 Tryz.sizeOf82 hlt ?_) | (with_reducible refine wpList_indexAt x 34 rfl rfl _ _ rfl rfl rfl Tryz.underlying82 Tryz.sizeOf3 hlx ?_; rw [HA.out]))
              go_ret2
              exact dist_no HB0.out HB.out
            · have q2 : (t == -1) = false := by simpa using ht1
              have HN2 := hide (HN.out ⟨fun h => absurd h hs1, fun h => absurd h ht1⟩)
              clear hs1 ht1
              by_cases hst : s = t
              · subst hst
                have HC := hide (cnt_no (p := p) (k := 5 * y + x) (by rw [HQ.out]; simp))
                go_wp2_with (first | (with_reducible refine wpList_indexVec x 20 rfl rfl _ _ rfl rfl rfl Tryz.underlying82 Tryz.isAgg3 Tryz.sizeOf3 hlx ?_; rw [HE.out, HSV.out]) | (with_reducible refine wpList_indexAt y 25 rfl rfl _ _ rfl rfl rfl Tryz.underlying84 Tryz.sizeOf82 hlt ?_) | (with_reducible refine wpList_indexAt x 26 rfl rfl _ _ rfl rfl rfl Tryz.underlying82 Tryz.sizeOf3 hlx ?_; rw [HA.out]) | (with_reducible refine wpList_indexAt y 33 rfl rfl _ _ rfl rfl rfl Tryz.underlying84 Tryz.sizeOf82 hlt ?_) | (with_reducible refine wpList_indexAt x 34 rfl rfl _ _ rfl rfl rfl Tryz.underlying82 Tryz.sizeOf3 hlx ?_; rw [HA.out]))
                go_roundw
                case rel => exact ⟨x + 1, by omega, by go_num, by rw [← Nat.add_assoc, HC.out], HN2.out, HP.out, HB.out⟩
                case measure => simp [intOf]; omega
              · have q3 : (s != t) = true := by simpa using hst
                have HC := hide (cnt_yes (p := p) (k := 5 * y + x) (by rw [HQ.out]; exact q3))
                clear hst
                go_wp2_with (first | (with_reducible refine wpList_indexVec x 20 rfl rfl _ _ rfl rfl rfl Tryz.underlying82 Tryz.isAgg3 Tryz.sizeOf3 hlx ?_; rw [HE.out, HSV.out]) | (with_reducible refine wpList_indexAt y 25 rfl rfl _ _ rfl rfl rfl Tryz.underlying84 Tryz.sizeOf82 hlt ?_) | (with_reducible refine wpList_indexAt x 26 rfl rfl _ _ rfl rfl rfl Tryz.underlying82 Tryz.sizeOf3 hlx ?_; rw [HA.out]) | (with_reducible refine wpList_indexAt y 33 rfl rfl _ _ rfl rfl rfl Tryz.underlying84 Tryz.sizeOf82 hlt ?_) | (with_reducible refine wpList_indexAt x 34 rfl rfl _ _ rfl rfl rfl Tryz.underlying82 Tryz.sizeOf3 hlx ?_; rw [HA.out]))
                go_roundw
                case rel => exact ⟨x + 1, by omega, by go_num, by rw [← Nat.add_assoc, HC.out]; go_num, HN2.out, HP.out, HB.out⟩
                case measure => simp [intOf]; omega
        · obtain rfl : x = 5 := by omega
          go_wp2
          go_roundw
          case rel => exact ⟨y + 1, by omega, by go_num, by rw [show 5 * (y + 1) = 5 * y + 5 by omega], HL.out, HP.out, HB.out⟩
          case measure => simp [intOf]; omega
    · obtain rfl : y = 5 := by omega
      have hbt : b = true := HH.out.2 HL.out
      subst hbt
      go_wp2
      go_ret2
      exact ⟨rfl, HB.out⟩

/-- Numbers put over others, from place o on. -/
def overF (F : Nat → Int) (o : Nat) (r : List Int) (j : Nat) : Int := if o ≤ j ∧ j < o + r.length then r.getD (j - o) 0 else F j
theorem blk_setCells {g n : Nat} {T : TypeId} : ∀ (r : List Int) (o : Nat) (w : World) (F : Nat → Int), Blk w g T n F → Blk (w.setCells g o (ints r)) g T n (overF F o r) ∧ w.grownBy (w.setCells g o (ints r)) (some g) ∧ (w.setCells g o (ints r)).heap.size = w.heap.size
  | [], o, w, F, h => ⟨blk_congr h fun i _ => by simp only [overF, List.length_nil]; rw [if_neg (by omega)], ⟨rfl, rfl, rfl, Nat.le_refl _, fun _ _ _ => rfl⟩, rfl⟩
  | x :: r, o, w, F, h => by
    have h1 := blk_set h o x
    obtain ⟨h2, h3, h4⟩ := blk_setCells r (o + 1) _ _ h1
    refine ⟨blk_congr h2 fun i _ => ?_, ?_, ?_⟩
    · simp only [overF, List.length_cons]
      by_cases e : i = o
      · subst e; rw [if_neg (by omega), if_pos rfl, if_pos (by omega), Nat.sub_self]; rfl
      · by_cases hl : o + 1 ≤ i ∧ i < o + 1 + r.length
        · rw [if_pos hl, if_pos (by omega), show i - o = (i - (o + 1)) + 1 by omega]; rfl
        · rw [if_neg hl, if_neg e, if_neg (by omega)]
    · refine grown_trans (b := w.setCell ⟨g, o, none⟩ (.int .i64 x)) ⟨rfl, rfl, rfl, by simp [World.setCell], fun k _ hr => heap_setCell_other w _ k _ fun e => hr (by rw [e])⟩ h3
    · show ((w.setCell ⟨g, o, none⟩ (.int .i64 x)).setCells g (o + 1) (ints r)).heap.size = w.heap.size
      rw [h4]; simp [World.setCell]
theorem vec_ints (n : Nat) (F : Nat → Int) : vecL n F = ints (rowF n F) := by simp [vecL, ints, rowF]

/-- A row goes into the middle of a variable. -/
theorem wpList_storeMid {P : Program} {ops : Array Oper} {rest : List Oper} {o : Oper} {a : Act} {Q : Exit → Act → World → Prop} {W : World} {g b n s : Nat} {T T' : TypeId} {F G : Nat → Int} (hb : Blk W g T n F)
    (hgd : o.guard = none) (x y : Operand) (ho : o.op = .store T' x y) (hx : a.eval x = .pointer (some ⟨g, b, none⟩)) (hy : a.eval y = .agg (vec s G)) (hi : (P.info? T').map (·.size) = some s) (hn : b + s ≤ n)
    (h : ∀ w', Blk w' g T n (fun j => if b ≤ j ∧ j < b + s then G (j - b) else F j) → W.grownBy w' (some g) → w'.heap.size = W.heap.size → wpList P ops Q rest (a.put o.dst undef) w') : wpList P ops Q (o :: rest) a W := by
  refine wpList_store_mid hgd T' x y ho g b (vec s G) hx hy (fun j hj => ?_) (by rw [hi, vec_size]) (vec_one s G) ?_
  · rw [vec_size] at hj
    exact ⟨by rw [blk_cell hb (b + j) (by omega)]; rfl, blk_frozen hb _⟩
  · have e : (vec s G).toList = ints (rowF s G) := by rw [← vec_ints]; rfl
    obtain ⟨h1, h2, h3⟩ := blk_setCells (rowF s G) b W F hb
    rw [e]
    refine h _ (blk_congr h1 fun i _ => ?_) h2 h3
    simp only [overF, rowF_len]
    by_cases hl : b ≤ i ∧ i < b + s
    · rw [if_pos hl, if_pos hl, List.getD_eq_getElem?_getD, List.getElem?_eq_getElem (by rw [rowF_len]; omega), Option.getD_some, rowF_at]
    · rw [if_neg hl, if_neg hl]

def mirR (n : Nat) (G : Nat → Int) (j : Nat) : Int := if j < n then G (n - 1 - j) else G j
end Go.Proofs.YtcliiefedmiokaaGreat
/-
  The program's images: mirrored; the exported functions.
-/
namespace Go.Proofs.YtcliiefedmiokaaGreat
open Go.RowKit

def mirM (C : Nat) (f : Nat → Nat → Int) (y x : Nat) : Int := f y (C - 1 - x)
def upMir (R C : Nat) (f : Nat → Nat → Int) (y : Nat) (i : Nat) : Int := if i / 5 < y then imgF R C (mirM C f) i else imgF R C f i
theorem upMir_zero (R C : Nat) (f : Nat → Nat → Int) : upMir R C f 0 = imgF R C f := by funext i; simp [upMir]
theorem upMir_all (R C : Nat) (f : Nat → Nat → Int) : ∀ i, i < 25 → upMir R C f 5 i = imgF R C (mirM C f) i := fun i hi => by rw [upMir, if_pos (by omega)]
theorem upMir_step (R C : Nat) (f : Nat → Nat → Int) (y n : Nat) (hC : C ≤ 5) (hn : n = if y < R then C else 0) : ∀ i, i < 25 →
    (if 0 + y * 5 ≤ i ∧ i < 0 + y * 5 + 5 then mirR n (fun j => imgF R C f (y * 5 + j)) (i - (0 + y * 5)) else upMir R C f y i) = upMir R C f (y + 1) i := fun i hi => by
  by_cases hl : 0 + y * 5 ≤ i ∧ i < 0 + y * 5 + 5
  · rw [if_pos hl, upMir, if_pos (by omega)]
    simp only [mirR, imgF]
    have e1 : i / 5 = y := by omega
    have e2 : i - (0 + y * 5) = i % 5 := by omega
    rw [e1, e2]
    by_cases hy : y < R
    · rw [if_pos hy] at hn
      subst hn
      by_cases hx : i % 5 < n
      · rw [if_pos hx, if_pos (by omega), if_pos ⟨hy, hx⟩, mirM, show (y * 5 + (n - 1 - i % 5)) / 5 = y by omega, show (y * 5 + (n - 1 - i % 5)) % 5 = n - 1 - i % 5 by omega]
      · rw [if_neg hx, if_neg (by omega), if_neg (by omega)]
    · rw [if_neg hy] at hn
      subst hn
      rw [if_neg (by omega), if_neg (by omega), if_neg (by omega)]
  · rw [if_neg hl, upMir, upMir]
    by_cases h2 : i / 5 < y
    · rw [if_pos h2, if_pos (by omega)]
    · rw [if_neg h2, if_neg (by omega)]

end Go.Proofs.YtcliiefedmiokaaGreat
/-
  The program's exported functions on images.
-/
namespace Go.Proofs.YtcliiefedmiokaaGreat
open Go.RowKit

def trM (f : Nat → Nat → Int) (y x : Nat) : Int := f x y
def invM (f : Nat → Nat → Int) (y x : Nat) : Int := 1 - f y x
theorem img_tr {R C : Nat} {f : Nat → Nat → Int} (h : Img R C f) : Img C R (trM f) := ⟨h.c1, h.c2, h.r1, h.r2, fun y x hy hx => h.cell x y hx hy⟩
theorem img_mir {R C : Nat} {f : Nat → Nat → Int} (h : Img R C f) : Img R C (mirM C f) := ⟨h.r1, h.r2, h.c1, h.c2, fun y x hy hx => h.cell y (C - 1 - x) hy (by omega)⟩
theorem img_inv {R C : Nat} {f : Nat → Nat → Int} (h : Img R C f) : Img R C (invM f) := ⟨h.r1, h.r2, h.c1, h.c2, fun y x hy hx => by rcases h.cell y x hy hx with e | e <;> simp [invM, e]⟩
theorem transposed_img (R C : Nat) (f : Nat → Nat → Int) (w : World) (_hI : Img R C f) :
    Calls Tryz.prog 89 #[.agg (vec 25 (imgF R C f))] w fun e w' => e = .returned (.agg (vec 25 (imgF C R (trM f)))) ∧ Below w.heap.size w w' := by
  rw [← vec_congr (n := 25) (F := fun i => imgF R C f (5 * (i % 5) + i / 5)) (G := imgF C R (trM f)) fun i hi => ?_]
  · exact transposed_any _ _
  · simp only [imgF, trM, show (5 * (i % 5) + i / 5) / 5 = i % 5 by omega, show (5 * (i % 5) + i / 5) % 5 = i / 5 by omega]
    by_cases h : i % 5 < R ∧ i / 5 < C
    · rw [if_pos h, if_pos ⟨h.2, h.1⟩]
    · rw [if_neg h, if_neg fun e => h ⟨e.2, e.1⟩]
set_option maxHeartbeats 400000 in
theorem implTransposeOf_no (v : Value) (m : List (List Int)) (w : World) (hin : InMat w v m) (h : okB m = false) :
    Calls Tryz.prog 45 #[v] w (MatRes [] w) := by
  have HI := hide hin; have H := hide h
  clear hin h
  go_enter Tryz.func45, Tryz.ntmps45
  go_wp2_with fail
  refine (imageOf_no v m _ HI.out H.out).mono ?_
  rintro e w1 ⟨rfl, b1⟩
  have B1 := hide b1
  clear b1
  go_wp2_with (first | (with_reducible refine wpList_allocVec 25 3 rfl rfl rfl Tryz.zeroImg ?_; intro wa ha ba sa) | (with_reducible refine wpList_storeVec ha rfl (.tmp 3) (.tmp 8) rfl rfl rfl Tryz.sizeImg ?_; intro wb hb gb sb) | (with_reducible refine wpList_loadVec hb 12 rfl rfl _ rfl rfl Tryz.underlying84 Tryz.sizeImg ?_))
  go_ret
  exact matRes_nil (B1.out.trans ((ba.mono B1.out.size).trans (grown_below gb (fun k hk => by cases hk; exact B1.out.size) (by have := B1.out.size; omega))))
set_option maxHeartbeats 400000 in
theorem implTransposeOf_yes (v : Value) (R C : Nat) (f : Nat → Nat → Int) (w : World) (hin : InMat w v (mkM R C f)) (hI : Img R C f) :
    Calls Tryz.prog 45 #[v] w (MatRes (mkM C R (trM f)) w) := by
  have HI := hide hin; have H := hide hI
  clear hin hI
  go_enter Tryz.func45, Tryz.ntmps45
  go_wp2_with fail
  refine (imageOf_yes v R C f _ HI.out H.out).mono ?_
  rintro e w1 ⟨rfl, b1⟩
  have B1 := hide b1
  clear b1
  go_wp2_with (first | (with_reducible refine wpList_allocVec 25 3 rfl rfl rfl Tryz.zeroImg ?_; intro wa ha ba sa) | (with_reducible refine wpList_storeVec ha rfl (.tmp 3) (.tmp 8) rfl rfl rfl Tryz.sizeImg ?_; intro wb hb gb sb) | (with_reducible refine wpList_loadVec hb 12 rfl rfl _ rfl rfl Tryz.underlying84 Tryz.sizeImg ?_))
  have B2 := hide (B1.out.trans ((ba.mono B1.out.size).trans (grown_below gb (fun k hk => by cases hk; exact B1.out.size) (by have := B1.out.size; omega))))
  clear ha ba sa hb gb sb
  refine (transposed_img R C f _ H.out).mono ?_
  rintro e w3 ⟨rfl, b3⟩
  have B3 := hide (B2.out.trans (b3.mono B2.out.size))
  clear b3
  go_wp2_with fail
  refine (lists_any C R (trM f) _ (img_tr H.out)).mono ?_
  rintro e w4 ⟨v4, rfl, o4, b4⟩
  have O4 := hide (ownMat_mono o4 B3.out.size (Nat.le_refl _)); have B4 := hide (B3.out.trans (b4.mono B3.out.size))
  clear o4 b4
  go_wp2
  go_ret
  exact ⟨_, rfl, O4.out, B4.out⟩

set_option maxHeartbeats 400000 in
theorem implCellAt_no (v : Value) (m : List (List Int)) (y x : Int) (w : World) (hin : InMat w v m) (h : okB m = false) :
    Calls Tryz.prog 59 #[v, .int .i64 y, .int .i64 x] w fun e w' => e = .returned (.int .i64 (-1)) ∧ Below w.heap.size w w' := by
  have HI := hide hin; have H := hide h
  clear hin h
  go_enter Tryz.func59, Tryz.ntmps59
  go_wp2_with fail
  refine (imageOf_no v m _ HI.out H.out).mono ?_
  rintro e w1 ⟨rfl, b1⟩
  have B1 := hide b1
  clear b1
  go_wp2_with (first | (with_reducible refine wpList_allocVec 25 7 rfl rfl rfl Tryz.zeroImg ?_; intro wa ha ba sa) | (with_reducible refine wpList_storeVec ha rfl (.tmp 7) (.tmp 12) rfl rfl rfl Tryz.sizeImg ?_; intro wb hb gb sb) | (with_reducible refine wpList_loadVec hb 16 rfl rfl _ rfl rfl Tryz.underlying84 Tryz.sizeImg ?_))
  go_ret
  exact ⟨rfl, B1.out.trans ((ba.mono B1.out.size).trans (grown_below gb (fun k hk => by cases hk; exact B1.out.size) (by have := B1.out.size; omega)))⟩
/-- The cell of a valid image, or -1. -/
def atM (R C : Nat) (f : Nat → Nat → Int) (y x : Int) : Int := if 0 ≤ y ∧ y < R ∧ 0 ≤ x ∧ x < C then f y.toNat x.toNat else -1
theorem cell_img (R C : Nat) (f : Nat → Nat → Int) (y x : Int) (w : World) (hI : Img R C f) :
    Calls Tryz.prog 108 #[.agg (vec 25 (imgF R C f)), .int .i64 y, .int .i64 x] w fun e w' => e = .returned (.int .i64 (atM R C f y x)) ∧ Below w.heap.size w w' := by
  have hR := hI.r2; have hC := hI.c2
  by_cases h : y < 0 ∨ 5 ≤ y ∨ x < 0 ∨ 5 ≤ x
  · refine (cell_out (imgF R C f) y x w h).mono ?_
    rintro e w' ⟨rfl, hb⟩
    exact ⟨by rw [atM, if_neg (by omega)], hb⟩
  · obtain ⟨a, rfl⟩ : ∃ a : Nat, y = a := ⟨y.toNat, by omega⟩
    obtain ⟨b, rfl⟩ : ∃ b : Nat, x = b := ⟨x.toNat, by omega⟩
    refine (cell_in (imgF R C f) a b w (by omega) (by omega)).mono ?_
    rintro e w' ⟨rfl, hb⟩
    refine ⟨ret_int ?_, hb⟩
    rw [imgF_at _ _ _ _ _ (by omega), atM]
    by_cases h2 : a < R ∧ b < C
    · rw [if_pos h2, if_pos (by omega)]; rfl
    · rw [if_neg h2, if_neg (by omega)]
set_option maxHeartbeats 400000 in
theorem implCellAt_yes (v : Value) (R C : Nat) (f : Nat → Nat → Int) (y x : Int) (w : World) (hin : InMat w v (mkM R C f)) (hI : Img R C f) :
    Calls Tryz.prog 59 #[v, .int .i64 y, .int .i64 x] w fun e w' => e = .returned (.int .i64 (atM R C f y x)) ∧ Below w.heap.size w w' := by
  have HI := hide hin; have H := hide hI
  clear hin hI
  go_enter Tryz.func59, Tryz.ntmps59
  go_wp2_with fail
  refine (imageOf_yes v R C f _ HI.out H.out).mono ?_
  rintro e w1 ⟨rfl, b1⟩
  have B1 := hide b1
  clear b1
  go_wp2_with (first | (with_reducible refine wpList_allocVec 25 7 rfl rfl rfl Tryz.zeroImg ?_; intro wa ha ba sa) | (with_reducible refine wpList_storeVec ha rfl (.tmp 7) (.tmp 12) rfl rfl rfl Tryz.sizeImg ?_; intro wb hb gb sb) | (with_reducible refine wpList_loadVec hb 16 rfl rfl _ rfl rfl Tryz.underlying84 Tryz.sizeImg ?_))
  have B2 := hide (B1.out.trans ((ba.mono B1.out.size).trans (grown_below gb (fun k hk => by cases hk; exact B1.out.size) (by have := B1.out.size; omega))))
  clear ha ba sa hb gb sb
  refine (cell_img R C f y x _ H.out).mono ?_
  rintro e w3 ⟨rfl, b3⟩
  have B3 := hide (B2.out.trans (b3.mono B2.out.size))
  clear b3
  go_wp2
  go_ret
  exact ⟨rfl, B3.out⟩

theorem img_zero {R C : Nat} (hR : 1 ≤ R ∧ R ≤ 5) (hC : 1 ≤ C ∧ C ≤ 5) : Img R C zeroM := ⟨hR.1, hR.2, hC.1, hC.2, fun _ _ _ _ => .inl rfl⟩
theorem whiteImage_img (R C : Nat) (w : World) :
    Calls Tryz.prog 110 #[.int .i64 R, .int .i64 C] w fun e w' => e = .returned (.agg (vec 25 (imgF R C zeroM))) ∧ Below w.heap.size w w' := by
  rw [← vec_congr (n := 25) (F := whiteF R C) (G := imgF R C zeroM) fun i hi => ?_]
  · exact whiteImage_any _ _ _
  · simp only [whiteF, imgF, zeroM]
    by_cases h : i / 5 < R ∧ i % 5 < C
    · rw [if_pos h, if_neg (by omega)]
    · rw [if_neg h, if_pos (by omega)]
end Go.Proofs.YtcliiefedmiokaaGreat
/-
  The model's functions on images.
-/
namespace Go.Proofs.YtcliiefedmiokaaGreat
open Go.RowKit

def inM (m : List (List Int)) (y x : Int) : Bool := okB m && decide (0 ≤ y ∧ y < m.length) && decide (0 ≤ x ∧ x < widthM m)
set_option maxHeartbeats 400000 in
theorem l02In_no (v : Value) (m : List (List Int)) (y x : Int) (w : World) (hin : InMat w v m) (h : okB m = false) :
    Calls Tryz.prog 80 #[v, .int .i64 y, .int .i64 x] w fun e w' => e = .returned (.bool false) ∧ w = w' := by
  have HI := hide hin; have H := hide h
  clear hin h
  go_enter Tryz.func80, Tryz.ntmps80
  go_wp2_with (with_reducible refine (specImageOk_any v m _ HI.out).mono ?_; rw [H.out]; rintro e w' ⟨rfl, rfl⟩)
  go_ret
  exact ⟨rfl, rfl⟩
set_option maxHeartbeats 400000 in
theorem l02In_img (v : Value) (R C : Nat) (f : Nat → Nat → Int) (y x : Int) (w : World) (hin : InMat w v (mkM R C f)) (hI : Img R C f) (b : Bool) (hb : b = true ↔ (0 ≤ y ∧ y < R ∧ 0 ≤ x ∧ x < C)) :
    Calls Tryz.prog 80 #[v, .int .i64 y, .int .i64 x] w fun e w' => e = .returned (.bool b) ∧ w = w' := by
  have HI := hide hin; have H := hide (img_ok hI)
  have hR := hI.r2; have hR1 := hI.r1; have hC := hI.c2; have hC1 := hI.c1
  obtain ⟨g, o, c, rfl, hg, hcell⟩ := inMat_img hin (by omega) (by omega)
  obtain ⟨g0, o0, c0, hx0, -⟩ := hcell 0 (by omega)
  rw [Nat.add_zero] at hx0
  have HB := hide hb
  clear hin hI hcell hb
  by_cases h1 : 0 ≤ y ∧ y ≤ (R : Int) - 1
  · have H1 := hide (decide_eq_true h1)
    by_cases h2 : 0 ≤ x ∧ x ≤ (C : Int) - 1
    · have H2 := hide (decide_eq_true h2)
      have HT : Hid (b = true) := hide (HB.out.2 (by omega))
      clear h1 h2
      go_enter Tryz.func80, Tryz.ntmps80
      go_wp2_with (first | (with_reducible refine (specImageOk_any _ _ _ HI.out).mono ?_; rw [H.out]; rintro e w' ⟨rfl, rfl⟩) | (with_reducible refine (l01In_any y 0 ((R : Int) - 1) _).mono ?_; rw [H1.out]; rintro e w' ⟨rfl, rfl⟩) | (with_reducible refine (l01In_any x 0 ((C : Int) - 1) _).mono ?_; rw [H2.out]; rintro e w' ⟨rfl, rfl⟩))
      go_ret
      exact ⟨ret_bool HT.out.symm, rfl⟩
    · have H2 := hide (decide_eq_false h2)
      have HT : Hid (b = false) := hide (by rw [Bool.eq_false_iff]; intro e; have := HB.out.1 e; omega)
      clear h1 h2
      go_enter Tryz.func80, Tryz.ntmps80
      go_wp2_with (first | (with_reducible refine (specImageOk_any _ _ _ HI.out).mono ?_; rw [H.out]; rintro e w' ⟨rfl, rfl⟩) | (with_reducible refine (l01In_any y 0 ((R : Int) - 1) _).mono ?_; rw [H1.out]; rintro e w' ⟨rfl, rfl⟩) | (with_reducible refine (l01In_any x 0 ((C : Int) - 1) _).mono ?_; rw [H2.out]; rintro e w' ⟨rfl, rfl⟩))
      go_ret
      exact ⟨ret_bool HT.out.symm, rfl⟩
  · have H1 := hide (decide_eq_false h1)
    have HT : Hid (b = false) := hide (by rw [Bool.eq_false_iff]; intro e; have := HB.out.1 e; omega)
    clear h1
    go_enter Tryz.func80, Tryz.ntmps80
    go_wp2_with (first | (with_reducible refine (specImageOk_any _ _ _ HI.out).mono ?_; rw [H.out]; rintro e w' ⟨rfl, rfl⟩) | (with_reducible refine (l01In_any y 0 ((R : Int) - 1) _).mono ?_; rw [H1.out]; rintro e w' ⟨rfl, rfl⟩))
    go_ret
    exact ⟨ret_bool HT.out.symm, rfl⟩

theorem cnt_row {R C : Nat} {f : Nat → Nat → Int} (p : Nat → Bool) (hp : ∀ i, imgF R C f i = -1 → p i = false) (y : Nat) (hC : C ≤ 5) : cnt p (5 * (y + 1)) = cnt p (5 * y + C) :=
  cnt_skip (by omega) fun i h1 h2 => hp i (by rw [imgF, if_neg (by omega)])
theorem cnt_end {R C : Nat} {f : Nat → Nat → Int} (p : Nat → Bool) (hp : ∀ i, imgF R C f i = -1 → p i = false) (hR : R ≤ 5) : cnt p 25 = cnt p (5 * R) :=
  cnt_skip (by omega) fun i h1 h2 => hp i (by rw [imgF, if_neg (by omega)])
end Go.Proofs.YtcliiefedmiokaaGreat
