/-
  boundsOf: the sums of the greatest columns, and the most that they can have.
-/
import Derived.Test.YtecfigjkcpbggaaBound
import Derived.Test.YtecfigjkcpbggaaObt
namespace Go.Proofs.Ytecfigjkcpbggaa
open Go.RowKit

/-- The slice v reads as r, and lies in a block with room for it. -/
def RowAt (w : World) (v : Value) (r : List Int) : Prop :=
  ∃ g c, v = .slice (some ⟨g, 0, none⟩) r.length c ∧ r.length ≤ c ∧ c ≤ maxLen ∧ g < w.heap.size ∧ ∀ i, (h : i < r.length) → w.cell? ⟨g, i, none⟩ = some (.int .i64 r[i])
theorem rowAt_below {w w' : World} {v : Value} {r : List Int} (h : RowAt w v r) (hb : Below w.heap.size w w') : RowAt w' v r := by
  obtain ⟨g, c, hv, h1, h2, hg, hc⟩ := h
  exact ⟨g, c, hv, h1, h2, Nat.lt_of_lt_of_le hg hb.size, fun i hi => below_cell hb hg (hc i hi)⟩
theorem rowAt_own {w : World} {base : Nat} {v : Value} {r : List Int} (h : w.ownsRow base 3 1 v r.length (ints r)) (hn : 0 < r.length) : RowAt w v r := by
  obtain ⟨g, c, rfl, -, hg, h1, h2, hc, -⟩ := own_some h hn
  exact ⟨g, c, rfl, h1, h2, hg, fun i hi => by rw [hc i hi, ints_at r i hi]⟩
theorem rowAt_take {w : World} {g n c k : Nat} {r : List Int} (h : RowAt w (.slice (some ⟨g, 0, none⟩) n c) r) (hk : k ≤ r.length) : InRow w (.slice (some ⟨g, 0, none⟩) k c) (r.take k) := by
  obtain ⟨g', c', he, h1, h2, hg, hc⟩ := h
  cases he
  have hl : (r.take k).length = k := by rw [List.length_take]; omega
  refine ⟨_, c, by rw [hl], by omega, .inr ⟨g, 0, rfl, hg, fun i hi => ?_⟩⟩
  rw [Nat.zero_add, List.getElem_take]; exact hc i (by omega)
theorem small_take {r : List Int} (h : SmallL r) (k : Nat) : SmallL (r.take k) :=
  ⟨by have := h.1; rw [List.length_take]; omega, fun i hi => by rw [List.getElem_take]; exact h.2 i (by rw [List.length_take] at hi; omega)⟩
theorem small_sum {r : List Int} (h : SmallL r) (k : Nat) : 0 ≤ (r.take k).sum ∧ (r.take k).sum ≤ 25 := by
  have h1 := sum_small (small_take h k) _ (Nat.le_refl _)
  rw [List.take_length] at h1
  have h2 := (small_take h k).1
  omega

/-- Bounds lie one behind the other. -/
def InBounds (w : World) (v : Value) (bs : List (Int × Int)) : Prop :=
  ∃ g c, v = .slice (some ⟨g, 0, none⟩) bs.length c ∧ bs.length ≤ c ∧ g < w.heap.size ∧ ∀ i, (h : i < bs.length) → w.cell? ⟨g, i * 2, none⟩ = some (.int .i64 bs[i].1) ∧ w.cell? ⟨g, i * 2 + 1, none⟩ = some (.int .i64 bs[i].2)
theorem inBounds_below {w w' : World} {v : Value} {bs : List (Int × Int)} (h : InBounds w v bs) (hb : Below w.heap.size w w') : InBounds w' v bs := by
  obtain ⟨g, c, hv, hc1, hg, hc⟩ := h
  exact ⟨g, c, hv, hc1, Nat.lt_of_lt_of_le hg hb.size, fun i hi => ⟨below_cell hb hg (hc i hi).1, below_cell hb hg (hc i hi).2⟩⟩
theorem own_below2 {w w' : World} {base e n z : Nat} {v : Value} {xs : List Value} (h : w.ownsRow base e z v n xs) (hb : Below w.heap.size w w') : w'.ownsRow base e z v n xs := by
  refine ⟨h.1, ?_⟩
  rcases h.2 with hn | ⟨g, cap, cur, hv, hbg, hg, r⟩
  · exact .inl hn
  · exact .inr ⟨g, cap, cur, hv, hbg, by rw [hb.block g (Array.getElem?_eq_some_iff.1 hg).1]; exact hg, r⟩
theorem own2_cell {w : World} {base e n z g c j : Nat} {xs : List Value} (h : w.ownsRow base e z (.slice (some ⟨g, 0, none⟩) n c) n xs) (hj : j < n * z) : ∃ y, w.cell? ⟨g, j, none⟩ = some y := by
  have := h.1
  exact ⟨xs[j], by rw [h.cellAt j hj, List.getElem?_eq_getElem (by omega)]⟩
def tabB (n : Nat) (S C : List Int) : List (Int × Int) := (List.range n).map fun k => ((S.take (k + 1)).sum, (C.take (k + 1)).sum)
theorem tabB_len (n : Nat) (S C : List Int) : (tabB n S C).length = n := by simp [tabB]
theorem tabB_at {n : Nat} {S C : List Int} {i : Nat} (h : i < (tabB n S C).length) : (tabB n S C)[i] = ((S.take (i + 1)).sum, (C.take (i + 1)).sum) := by simp [tabB]

theorem exec_storeBound {ρ : Operand → Value} {o : Oper} {w : World} {x y : Operand} {p : Nat} {s m u v : Int} (ho : o.op = .store 72 x y) (hx : ρ x = .pointer (some ⟨p, 0, none⟩)) (hy : ρ y = .agg #[.int .i64 s, .int .i64 m])
    (h1 : w.cell? ⟨p, 0, none⟩ = some (.int .i64 u)) (h2 : w.cell? ⟨p, 1, none⟩ = some (.int .i64 v)) (f1 : w.frozen? ⟨p, 0, none⟩ = false) (f2 : w.frozen? ⟨p, 1, none⟩ = false) :
    (execOp ρ o).run Try.prog w = .ok .skip ((w.setCell ⟨p, 0, none⟩ (.int .i64 s)).setCell ⟨p, 1, none⟩ (.int .i64 m)) := by
  unfold execOp
  simp only [ho, hx, hy]
  go_simp

set_option maxRecDepth 100000 in
set_option maxHeartbeats 2000000 in
theorem boundAtK_any (S C : List Int) (v1 v2 : Value) (q1 q2 k : Nat) (w : World) (h1 : RowAt w v1 S) (h2 : RowAt w v2 C) (hq1 : q1 < w.heap.size) (hq2 : q2 < w.heap.size) (hc1 : w.cell? ⟨q1, 0, none⟩ = some v1) (hc2 : w.cell? ⟨q2, 0, none⟩ = some v2) (hs : SmallL S) (hs2 : SmallL C) (hk1 : k ≤ S.length) (hk2 : k ≤ C.length) :
    Calls Try.prog 95 #[.int .i64 k, .pointer (some ⟨q1, 0, none⟩), .pointer (some ⟨q2, 0, none⟩)] w fun e w' => e = .returned (.agg #[.int .i64 (S.take k).sum, .int .i64 (C.take k).sum]) ∧ Below w.heap.size w w' := by
  obtain ⟨W, hW⟩ : ∃ W, W = w.alloc (.cells #[.int .i64 0, .int .i64 0] 72) := ⟨_, rfl⟩
  have hb : Below w.heap.size w W := by rw [hW]; exact (Below.refl _ _).alloc (Nat.le_refl _) _
  have hr1 := rowAt_below h1 hb; have hr2 := rowAt_below h2 hb
  have hcw1 := below_cell hb hq1 hc1; have hcw2 := below_cell hb hq2 hc2
  have hba : BoundAt W w.heap.size 0 0 := by rw [hW]; exact heap_alloc_new w _
  obtain ⟨g1, c1, rfl, hl1, hm1, -, -⟩ := h1
  obtain ⟨g2, c2, rfl, hl2, hm2, -, -⟩ := h2
  unfold maxLen at hm1 hm2
  have HT1 := hide (inRow_below (rowAt_take hr1 hk1) (below_drew (Below.refl _ W))); have HT2 := hide (inRow_below (rowAt_take hr2 hk2) (below_drew (Below.refl _ W)))
  have HM1 := hide (small_take hs k); have HM2 := hide (small_take hs2 k)
  have HB := hide hb; have HW := hide hW; have HBA := hide hba
  obtain ⟨s, hs'⟩ : ∃ s, s = (S.take k).sum := ⟨_, rfl⟩
  obtain ⟨m, hm'⟩ : ∃ m, m = (C.take k).sum := ⟨_, rfl⟩
  have HSS := hide hs'; have HMM := hide hm'
  rw [← hs', ← hm']
  obtain ⟨n1, hn1⟩ : ∃ n, n = S.length := ⟨_, rfl⟩
  obtain ⟨n2, hn2⟩ : ∃ n, n = C.length := ⟨_, rfl⟩
  rw [← hn1] at hl1 hk1 hcw1
  rw [← hn2] at hl2 hk2 hcw2
  clear hW hb hr1 hr2 hc1 hc2 hba hs hs2 hs' hm' hn1 hn2
  go_enter Try.func95, Try.ntmps95
  go_wp2
  rw [← HW.out]
  obtain ⟨fs, hfs⟩ : ∃ fs : List FactP, fs = [isV (.slice (some ⟨g1, 0, none⟩) n1 c1), isV (.int .i64 k), isV (.slice (some ⟨g1, 0, none⟩) k c1), isV (.int .i64 s), isV (.slice (some ⟨g2, 0, none⟩) n2 c2), isV (.int .i64 k), isV (.slice (some ⟨g2, 0, none⟩) k c2), isV (.int .i64 m), isV (.agg #[.int .i64 s, .int .i64 m])] := ⟨_, rfl⟩
  have hst : ∀ f ∈ fs, StableP f := by
    rw [hfs]; intro f hf
    simp only [List.mem_cons, List.not_mem_nil, or_false] at hf
    rcases hf with rfl | rfl | rfl | rfl | rfl | rfl | rfl | rfl | rfl <;> exact stable_v _
  subst hfs
  refine wp_region_tail (S := fun w2 => w2 = W.drew) [isV (.slice (some ⟨g1, 0, none⟩) n1 c1), isV (.int .i64 k), isV (.slice (some ⟨g1, 0, none⟩) k c1), isV (.int .i64 s), isV (.slice (some ⟨g2, 0, none⟩) n2 c2), isV (.int .i64 k), isV (.slice (some ⟨g2, 0, none⟩) k c2), isV (.int .i64 m), isV (.agg #[.int .i64 s, .int .i64 m])] [(0, .int .i64 k), (1, .pointer (some ⟨q1, 0, none⟩)), (2, .pointer (some ⟨q2, 0, none⟩))] _ _ 9 (by kernel_rfl) rfl rfl (by kernel_rfl) (by kernel_rfl) rfl (by kernel_rfl) ?base rfl ?ob rfl ?fin
  case base =>
    intro t v ht
    simp only [List.lookup_cons, List.lookup_nil] at ht
    repeat' split at ht
    all_goals first | (cases ht; done) | (obtain rfl := Option.some.inj ht; rename_i hh; obtain rfl := eq_of_beq hh; rfl)
  case ob =>
    exact ⟨obt_one (.slice (some ⟨g1, 0, none⟩) n1 c1) rfl rfl (srt_b 1 rfl) (fun ρ w2 hS hx => by subst hS; go_simp),
      obt_move (.int .i64 k) rfl rfl rfl (srt_b 0 rfl),
      obt_two (.slice (some ⟨g1, 0, none⟩) k c1) rfl rfl (srt_j 0 rfl (by kernel_rfl) rfl) (srt_j 1 rfl (by kernel_rfl) rfl) (fun ρ w2 hS hx hy => by go_simp; omega),
      obt_call hst [.slice (some ⟨g1, 0, none⟩) k c1] rfl Try.func80 (by kernel_rfl) (by kernel_rfl) rfl ⟨(srt_j 2 rfl (by kernel_rfl) rfl), trivial⟩ (fun w2 hS => by subst hS; exact (totalOf_any _ _ _ HT1.out HM1.out).mono fun e w3 hh => ⟨_, hh.1, hh.2.symm, hh.2 ▸ Below.refl _ _, by rw [← HSS.out]; rfl⟩),
      obt_one (.slice (some ⟨g2, 0, none⟩) n2 c2) rfl rfl (srt_b 2 rfl) (fun ρ w2 hS hx => by subst hS; go_simp),
      obt_move (.int .i64 k) rfl rfl rfl (srt_b 0 rfl),
      obt_two (.slice (some ⟨g2, 0, none⟩) k c2) rfl rfl (srt_j 4 rfl (by kernel_rfl) rfl) (srt_j 5 rfl (by kernel_rfl) rfl) (fun ρ w2 hS hx hy => by go_simp; omega),
      obt_call hst [.slice (some ⟨g2, 0, none⟩) k c2] rfl Try.func80 (by kernel_rfl) (by kernel_rfl) rfl ⟨(srt_j 6 rfl (by kernel_rfl) rfl), trivial⟩ (fun w2 hS => by subst hS; exact (totalOf_any _ _ _ HT2.out HM2.out).mono fun e w3 hh => ⟨_, hh.1, hh.2.symm, hh.2 ▸ Below.refl _ _, by rw [← HMM.out]; rfl⟩),
      obt_two (.agg #[.int .i64 s, .int .i64 m]) rfl rfl (srt_j 3 rfl (by kernel_rfl) rfl) (srt_j 7 rfl (by kernel_rfl) rfl) (fun ρ w2 hS hx hy => by go_simp),
      trivial⟩
  case fin =>
    intro a' w' h1 h2 h3 hS h4 K hK
    subst hS
    have hcs := boundAt_cells HBA.out
    have hfz := boundAt_frozen HBA.out
    have v4 : a'.tmps.getD 4 undef = .pointer (some ⟨w.heap.size, 0, none⟩) := h3 4 (by kernel_rfl)
    have v13 : a'.tmps.getD 13 undef = .agg #[.int .i64 s, .int .i64 m] := h4 8 13 rfl (by decide)
    refine run_skip (exec_storeBound (s := s) (m := m) rfl v4 v13 hcs.1 hcs.2 hfz.1 hfz.2) (hK undef _ ?_)
    have ha : a' = ⟨List.toArray [.int .i64 k, .pointer (some ⟨q1, 0, none⟩), .pointer (some ⟨q2, 0, none⟩), undef, .pointer (some ⟨w.heap.size, 0, none⟩), .slice (some ⟨g1, 0, none⟩) n1 c1, .int .i64 k, .slice (some ⟨g1, 0, none⟩) k c1, .int .i64 s, .slice (some ⟨g2, 0, none⟩) n2 c2, .int .i64 k, .slice (some ⟨g2, 0, none⟩) k c2, .int .i64 m, .agg #[.int .i64 s, .int .i64 m]], []⟩ := frame_eq _ h1 h2 ⟨(h3 0 (by kernel_rfl)), (h3 1 (by kernel_rfl)), (h3 2 (by kernel_rfl)), (h3 3 (by kernel_rfl)), (h3 4 (by kernel_rfl)), (h4 0 5 rfl (by decide)), (h4 1 6 rfl (by decide)), (h4 2 7 rfl (by decide)), (h4 3 8 rfl (by decide)), (h4 4 9 rfl (by decide)), (h4 5 10 rfl (by decide)), (h4 6 11 rfl (by decide)), (h4 7 12 rfl (by decide)), (h4 8 13 rfl (by decide)), trivial⟩
    have hp : a'.put none undef = a' := rfl
    refine (congrArg (fun q => Exit.then _ _ Exit.normal q _) (hp.trans ha)).mpr ?_
    have d1 : ((W.drew.setCell ⟨w.heap.size, 0, none⟩ (.int .i64 s)).setCell ⟨w.heap.size, 1, none⟩ (.int .i64 m)).cell? ⟨w.heap.size, 0, none⟩ = some (.int .i64 s) := by
      rw [World.cell?_setCell_other _ _ _ _ (by simp)]; exact World.cell?_setCell_same' _ _ _ (by rw [show W.drew.cell? ⟨w.heap.size, 0, none⟩ = _ from hcs.1]; rfl)
    have d2 : ((W.drew.setCell ⟨w.heap.size, 0, none⟩ (.int .i64 s)).setCell ⟨w.heap.size, 1, none⟩ (.int .i64 m)).cell? ⟨w.heap.size, 1, none⟩ = some (.int .i64 m) := by
      exact World.cell?_setCell_same' _ _ _ (by rw [World.cell?_setCell_other _ _ _ _ (by simp), show W.drew.cell? ⟨w.heap.size, 1, none⟩ = _ from hcs.2]; rfl)
    have HBE := hide ((((below_drew HB.out).setCell (p := ⟨w.heap.size, 0, none⟩) (Nat.le_refl _) (.int .i64 s)).setCell (p := ⟨w.heap.size, 1, none⟩) (Nat.le_refl _) (.int .i64 m)))
    clear hst h1 h2 h3 h4 hK ha hp v4 v13 hcs hfz
    generalize (W.drew.setCell ⟨w.heap.size, 0, none⟩ (.int .i64 s)).setCell ⟨w.heap.size, 1, none⟩ (.int .i64 m) = w9 at d1 d2 HBE ⊢
    go_wp2
    exact bodyPost_ret (v := .agg #[.int .i64 s, .int .i64 m]) (by simp [results, Try.results95, go_sem, d1, d2]) rfl ⟨rfl, HBE.out⟩

theorem Try.infoBound : (Try.prog.info? 72).map (fun i => (i.zero, i.size, i.bytes)) = some (some (.agg #[.int .i64 0, .int .i64 0]), 2, 16) := by kernel_rfl
/-- The first k bounds are written. -/
def Filled (xs : List Value) (S C : List Int) (k : Nat) : Prop := ∀ i, i < k → xs[i * 2]? = some (.int .i64 (S.take (i + 1)).sum) ∧ xs[i * 2 + 1]? = some (.int .i64 (C.take (i + 1)).sum)
theorem filled_step {xs : List Value} {S C : List Int} {k n : Nat} (h : Filled xs S C k) (hl : xs.length = n * 2) (hk : k < n) {s m : Int} (hs : s = (S.take (k + 1)).sum) (hm : m = (C.take (k + 1)).sum) : Filled ((xs.set (k * 2) (.int .i64 s)).set (k * 2 + 1) (.int .i64 m)) S C (k + 1) := fun i hi => by
  by_cases e : i = k
  · subst e
    exact ⟨by rw [List.getElem?_set_ne (by omega), List.getElem?_set_self (by omega), hs], by rw [List.getElem?_set_self (by rw [List.length_set]; omega), hm]⟩
  · obtain ⟨h1, h2⟩ := h i (by omega)
    exact ⟨by rw [List.getElem?_set_ne (by omega), List.getElem?_set_ne (by omega)]; exact h1, by rw [List.getElem?_set_ne (by omega), List.getElem?_set_ne (by omega)]; exact h2⟩
def BoundsRes (bs : List (Int × Int)) (w : World) (e : Ending) (w' : World) : Prop := ∃ v, e = .returned v ∧ InBounds w' v bs ∧ Below w.heap.size w w'
set_option maxHeartbeats 2000000 in
theorem collectBound_any (S C : List Int) (v1 v2 : Value) (q1 q2 n : Nat) (w : World) (h1 : RowAt w v1 S) (h2 : RowAt w v2 C) (hq1 : q1 < w.heap.size) (hq2 : q2 < w.heap.size) (hc1 : w.cell? ⟨q1, 0, none⟩ = some v1) (hc2 : w.cell? ⟨q2, 0, none⟩ = some v2) (hs : SmallL S) (hs2 : SmallL C) (hS : S.length = n) (hC : C.length = n) (hn : n ≤ 5) :
    Calls Try.prog 94 #[.int .i64 n, .func (.func 95) #[] #[.pointer (some ⟨q1, 0, none⟩), .pointer (some ⟨q2, 0, none⟩)]] w (BoundsRes (tabB n S C) w) := by
  obtain ⟨i0, hi, hz0, hz1, hz2⟩ := info_parts Try.infoBound
  have HCALL := hide fun (w' : World) (k : Nat) (hb : Below w.heap.size w w') (hk : k ≤ n) => boundAtK_any S C v1 v2 q1 q2 k w' (rowAt_below h1 hb) (rowAt_below h2 hb) (Nat.lt_of_lt_of_le hq1 hb.size) (Nat.lt_of_lt_of_le hq2 hb.size) (below_cell hb hq1 hc1) (below_cell hb hq2 hc2) hs hs2 (by omega) (by omega)
  clear h1 h2 hq1 hq2 hc1 hc2 hs hs2 hS hC
  go_enter Try.func94, Try.ntmps94
  go_wp2_with (at_make; refine wpList_make_full _ rfl _ _ _ rfl w.heap.size 72 i0 _ 2 Try.underlying70 hi hz0 hz1 .i64 .i64 n n n rfl rfl rfl rfl (by rw [hz2]; omega) (by unfold maxLen; omega) (Nat.le_refl _) ?_; intro w1 ho hg)
  have HO : Hid (∃ xs, w1.ownsRow w.heap.size 72 2 (.slice (some ⟨w.heap.size, 0, none⟩) n n) n xs ∧ Filled xs S C 0) := hide ⟨_, ho, fun i hi => absurd hi (Nat.not_lt_zero _)⟩
  have HB := hide (grown_below hg (fun k hk => by cases hk) (Nat.le_refl w.heap.size))
  clear ho hg hz0 hz1 hz2 hi
  go_wp2
  go_loopw [10] (fun i w' => ∃ k : Nat, k ≤ n ∧ i = .int .i64 k ∧ (∃ xs, w'.ownsRow w.heap.size 72 2 (.slice (some ⟨w.heap.size, 0, none⟩) n n) n xs ∧ Filled xs S C k) ∧ Below w.heap.size w w') (fun i _ => n - (intOf i).toNat)
  case atStart => exact ⟨0, Nat.zero_le _, rfl, HO.out, HB.out⟩
  case round =>
    clear HO HB
    obtain ⟨k, hk, rfl, ⟨xs, ho, hf⟩, hb⟩ := hrel
    have HO := hide ho; have HF := hide hf; have HB := hide hb
    clear ho hf hb
    by_cases hlt : k < n
    · have HCK := hide (HCALL.out wr (k + 1) HB.out (by omega))
      obtain ⟨s, hs⟩ : ∃ s, s = (S.take (k + 1)).sum := ⟨_, rfl⟩
      obtain ⟨m, hm⟩ : ∃ m, m = (C.take (k + 1)).sum := ⟨_, rfl⟩
      rw [← hs, ← hm] at HCK
      have HFS := hide (filled_step HF.out HO.out.1 hlt hs hm)
      clear hs hm
      go_wp2_with (go_at_call 95; refine HCK.out.mono ?_; rintro e w9 ⟨rfl, hb9⟩; have HO9 := hide (own_below2 HO.out hb9); have HB9 := hide (HB.out.trans (hb9.mono HB.out.size)); clear hb9; obtain ⟨y1, hy1⟩ := own2_cell HO9.out (show k * 2 < n * 2 by omega); obtain ⟨y2, hy2⟩ := own2_cell HO9.out (show k * 2 + 1 < n * 2 by omega); have hf1 := HO9.out.frozenAt (k * 2); have hf2 := HO9.out.frozenAt (k * 2 + 1))
      go_roundw
      case rel => exact ⟨k + 1, by omega, by go_num, ⟨_, ((HO9.out.stored (k * 2) (.int .i64 s)).1.stored (k * 2 + 1) (.int .i64 m)).1, HFS.out⟩, (HB9.out.setCell (p := ⟨w.heap.size, k * 2, none⟩) (Nat.le_refl _) _).setCell (p := ⟨w.heap.size, k * 2 + 1, none⟩) (Nat.le_refl _) _⟩
      case measure => simp [intOf]; omega
    · obtain rfl : k = n := by omega
      go_wp2
      go_ret
      refine ⟨_, rfl, ⟨w.heap.size, k, by rw [tabB_len]; rfl, by rw [tabB_len]; exact Nat.le_refl _, (HO.out.lt _ rfl).2, fun i hi => ?_⟩, HB.out⟩
      rw [tabB_at hi]
      rw [tabB_len] at hi
      obtain ⟨f1, f2⟩ := HF.out i hi
      exact ⟨by rw [HO.out.cellAt _ (by omega)]; exact f1, by rw [HO.out.cellAt _ (by omega)]; exact f2⟩
end Go.Proofs.Ytecfigjkcpbggaa
