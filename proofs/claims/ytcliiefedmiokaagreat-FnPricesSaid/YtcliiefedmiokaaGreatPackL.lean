/-
  Texts of this claim, one behind the other: Bounds, BoundsOf, Min, Exist, Gale, Dfs, ShSl.
-/
import Derived.Test.YtcliiefedmiokaaGreatPackK
import Derived.Test.YtcliiefedmiokaaGreatPackC
import Derived.Test.YtcliiefedmiokaaGreatPackD
import Derived.Shelf.Slices.Clone
import Derived.Ground.Names2Prog
import Derived.Test.YtcliiefedmiokaaGreatProg
/-
  boundsOf: the sums of the greatest columns, and the most that they can have.
-/
namespace Go.Proofs.YtcliiefedmiokaaGreat
open Go.RowKit

/-- The slice v reads as r, and lies in a block with room for it. -/
def RowAt (w : World) (v : Value) (r : List Int) : Prop :=
  ∃ g c, v = .slice (some ⟨g, 0, none⟩) r.length c ∧ r.length ≤ c ∧ c ≤ maxLen ∧ g < w.heap.size ∧ ∀ i, (h : i < r.length) → w.cell? ⟨g, i, none⟩ = some (.int .i64 r[i])
theorem rowAt_below {w w' : World} {v : Value} {r : List Int} (h : RowAt w v r) (hb : Below w.heap.size w w') : RowAt w' v r := by
  obtain ⟨g, c, hv, h1, h2, hg, hc⟩ := h
  exact ⟨g, c, hv, h1, h2, Nat.lt_of_lt_of_le hg hb.size, fun i hi => below_cell hb hg (hc i hi)⟩
theorem rowAt_own {w : World} {base : Nat} {v : Value} {r : List Int} (h : w.ownsRow base 3 1 v r.length (ints r)) (hn : 0 < r.length) : RowAt w v r := by
  obtain ⟨g, c, rfl, -, hg, h1, h2, hc, -⟩ := own_some h hn
  exact ⟨g, c, rfl, h1, h2, hg, fun i hi => by rw [hc i hi, ints_at r i hi]⟩
theorem rowAt_take {w : World} {g n c k : Nat} {r : List Int} (h : RowAt w (.slice (some ⟨g, 0, none⟩) n c) r) (hk : k ≤ r.length) : InRow w (.slice (some ⟨g, 0, none⟩) k c) (r.take k) := by
  obtain ⟨g', c', he, h1, h2, hg, hc⟩ := h
  cases he
  have hl : (r.take k).length = k := by rw [List.length_take]; omega
  refine ⟨_, c, by rw [hl], by omega, .inr ⟨g, 0, rfl, hg, fun i hi => ?_⟩⟩
  rw [Nat.zero_add, List.getElem_take]; exact hc i (by omega)
theorem small_take {r : List Int} (h : SmallL r) (k : Nat) : SmallL (r.take k) :=
  ⟨by have := h.1; rw [List.length_take]; omega, fun i hi => by rw [List.getElem_take]; exact h.2 i (by rw [List.length_take] at hi; omega)⟩
theorem small_sum {r : List Int} (h : SmallL r) (k : Nat) : 0 ≤ (r.take k).sum ∧ (r.take k).sum ≤ 25 := by
  have h1 := sum_small (small_take h k) _ (Nat.le_refl _)
  rw [List.take_length] at h1
  have h2 := (small_take h k).1
  omega

/-- Bounds lie one behind the other. -/
def InBounds (w : World) (v : Value) (bs : List (Int × Int)) : Prop :=
  ∃ g c, v = .slice (some ⟨g, 0, none⟩) bs.length c ∧ bs.length ≤ c ∧ g < w.heap.size ∧ ∀ i, (h : i < bs.length) → w.cell? ⟨g, i * 2, none⟩ = some (.int .i64 bs[i].1) ∧ w.cell? ⟨g, i * 2 + 1, none⟩ = some (.int .i64 bs[i].2)
theorem inBounds_below {w w' : World} {v : Value} {bs : List (Int × Int)} (h : InBounds w v bs) (hb : Below w.heap.size w w') : InBounds w' v bs := by
  obtain ⟨g, c, hv, hc1, hg, hc⟩ := h
  exact ⟨g, c, hv, hc1, Nat.lt_of_lt_of_le hg hb.size, fun i hi => ⟨below_cell hb hg (hc i hi).1, below_cell hb hg (hc i hi).2⟩⟩
theorem own_below2 {w w' : World} {base e n z : Nat} {v : Value} {xs : List Value} (h : w.ownsRow base e z v n xs) (hb : Below w.heap.size w w') : w'.ownsRow base e z v n xs := by
  refine ⟨h.1, ?_⟩
  rcases h.2 with hn | ⟨g, cap, cur, hv, hbg, hg, r⟩
  · exact .inl hn
  · exact .inr ⟨g, cap, cur, hv, hbg, by rw [hb.block g (Array.getElem?_eq_some_iff.1 hg).1]; exact hg, r⟩
theorem own2_cell {w : World} {base e n z g c j : Nat} {xs : List Value} (h : w.ownsRow base e z (.slice (some ⟨g, 0, none⟩) n c) n xs) (hj : j < n * z) : ∃ y, w.cell? ⟨g, j, none⟩ = some y := by
  have := h.1
  exact ⟨xs[j], by rw [h.cellAt j hj, List.getElem?_eq_getElem (by omega)]⟩
def tabB (n : Nat) (S C : List Int) : List (Int × Int) := (List.range n).map fun k => ((S.take (k + 1)).sum, (C.take (k + 1)).sum)
theorem tabB_len (n : Nat) (S C : List Int) : (tabB n S C).length = n := by simp [tabB]
theorem tabB_at {n : Nat} {S C : List Int} {i : Nat} (h : i < (tabB n S C).length) : (tabB n S C)[i] = ((S.take (i + 1)).sum, (C.take (i + 1)).sum) := by simp [tabB]

theorem exec_storeBound {ρ : Operand → Value} {o : Oper} {w : World} {x y : Operand} {p : Nat} {s m u v : Int} (ho : o.op = .store 144 x y) (hx : ρ x = .pointer (some ⟨p, 0, none⟩)) (hy : ρ y = .agg #[.int .i64 s, .int .i64 m])
    (h1 : w.cell? ⟨p, 0, none⟩ = some (.int .i64 u)) (h2 : w.cell? ⟨p, 1, none⟩ = some (.int .i64 v)) (f1 : w.frozen? ⟨p, 0, none⟩ = false) (f2 : w.frozen? ⟨p, 1, none⟩ = false) :
    (execOp ρ o).run Tryz.prog w = .ok .skip ((w.setCell ⟨p, 0, none⟩ (.int .i64 s)).setCell ⟨p, 1, none⟩ (.int .i64 m)) := by
  unfold execOp
  simp only [ho, hx, hy]
  go_simp

set_option maxRecDepth 100000 in
set_option maxHeartbeats 2000000 in
theorem boundAtK_any (S C : List Int) (v1 v2 : Value) (q1 q2 k : Nat) (w : World) (h1 : RowAt w v1 S) (h2 : RowAt w v2 C) (hq1 : q1 < w.heap.size) (hq2 : q2 < w.heap.size) (hc1 : w.cell? ⟨q1, 0, none⟩ = some v1) (hc2 : w.cell? ⟨q2, 0, none⟩ = some v2) (hs : SmallL S) (hs2 : SmallL C) (hk1 : k ≤ S.length) (hk2 : k ≤ C.length) :
    Calls Tryz.prog 140 #[.int .i64 k, .pointer (some ⟨q1, 0, none⟩), .pointer (some ⟨q2, 0, none⟩)] w fun e w' => e = .returned (.agg #[.int .i64 (S.take k).sum, .int .i64 (C.take k).sum]) ∧ Below w.heap.size w w' := by
  obtain ⟨W, hW⟩ : ∃ W, W = w.alloc (.cells #[.int .i64 0, .int .i64 0] 144) := ⟨_, rfl⟩
  have hb : Below w.heap.size w W := by rw [hW]; exact (Below.refl _ _).alloc (Nat.le_refl _) _
  have hr1 := rowAt_below h1 hb; have hr2 := rowAt_below h2 hb
  have hcw1 := below_cell hb hq1 hc1; have hcw2 := below_cell hb hq2 hc2
  have hba : BoundAt W w.heap.size 0 0 := by rw [hW]; exact heap_alloc_new w _
  obtain ⟨g1, c1, rfl, hl1, hm1, -, -⟩ := h1
  obtain ⟨g2, c2, rfl, hl2, hm2, -, -⟩ := h2
  unfold maxLen at hm1 hm2
  have HT1 := hide (inRow_below (rowAt_take hr1 hk1) (below_drew (Below.refl _ W))); have HT2 := hide (inRow_below (rowAt_take hr2 hk2) (below_drew (Below.refl _ W)))
  have HM1 := hide (small_take hs k); have HM2 := hide (small_take hs2 k)
  have HB := hide hb; have HW := hide hW; have HBA := hide hba
  obtain ⟨s, hs'⟩ : ∃ s, s = (S.take k).sum := ⟨_, rfl⟩
  obtain ⟨m, hm'⟩ : ∃ m, m = (C.take k).sum := ⟨_, rfl⟩
  have HSS := hide hs'; have HMM := hide hm'
  rw [← hs', ← hm']
  obtain ⟨n1, hn1⟩ : ∃ n, n = S.length := ⟨_, rfl⟩
  obtain ⟨n2, hn2⟩ : ∃ n, n = C.length := ⟨_, rfl⟩
  rw [← hn1] at hl1 hk1 hcw1
  rw [← hn2] at hl2 hk2 hcw2
  clear hW hb hr1 hr2 hc1 hc2 hba hs hs2 hs' hm' hn1 hn2
  go_enter Tryz.func140, Tryz.ntmps140
  go_wp2
  rw [← HW.out]
  obtain ⟨fs, hfs⟩ : ∃ fs : List FactP, fs = [isV (.slice (some ⟨g1, 0, none⟩) n1 c1), isV (.int .i64 k), isV (.slice (some ⟨g1, 0, none⟩) k c1), isV (.int .i64 s), isV (.slice (some ⟨g2, 0, none⟩) n2 c2), isV (.int .i64 k), isV (.slice (some ⟨g2, 0, none⟩) k c2), isV (.int .i64 m), isV (.agg #[.int .i64 s, .int .i64 m])] := ⟨_, rfl⟩
  have hst : ∀ f ∈ fs, StableP f := by
    rw [hfs]; intro f hf
    simp only [List.mem_cons, List.not_mem_nil, or_false] at hf
    rcases hf with rfl | rfl | rfl | rfl | rfl | rfl | rfl | rfl | rfl <;> exact stable_v _
  subst hfs
  refine wp_region_tail (S := fun w2 => w2 = W.drew) [isV (.slice (some ⟨g1, 0, none⟩) n1 c1), isV (.int .i64 k), isV (.slice (some ⟨g1, 0, none⟩) k c1), isV (.int .i64 s), isV (.slice (some ⟨g2, 0, none⟩) n2 c2), isV (.int .i64 k), isV (.slice (some ⟨g2, 0, none⟩) k c2), isV (.int .i64 m), isV (.agg #[.int .i64 s, .int .i64 m])] [(0, .int .i64 k), (1, .pointer (some ⟨q1, 0, none⟩)), (2, .pointer (some ⟨q2, 0, none⟩))] _ _ 9 (by kernel_rfl) rfl rfl (by kernel_rfl) (by kernel_rfl) rfl (by kernel_rfl) ?base rfl ?ob rfl ?fin
  case base =>
    intro t v ht
    simp only [List.lookup_cons, List.lookup_nil] at ht
    repeat' split at ht
    all_goals first | (cases ht; done) | (obtain rfl := Option.some.inj ht; rename_i hh; obtain rfl := eq_of_beq hh; rfl)
  case ob =>
    exact ⟨obt_one (.slice (some ⟨g1, 0, none⟩) n1 c1) rfl rfl (srt_b 1 rfl) (fun ρ w2 hS hx => by subst hS; go_simp),
      obt_move (.int .i64 k) rfl rfl rfl (srt_b 0 rfl),
      obt_two (.slice (some ⟨g1, 0, none⟩) k c1) rfl rfl (srt_j 0 rfl (by kernel_rfl) rfl) (srt_j 1 rfl (by kernel_rfl) rfl) (fun ρ w2 hS hx hy => by go_simp; omega),
      obt_call hst [.slice (some ⟨g1, 0, none⟩) k c1] rfl Tryz.func125 (by kernel_rfl) (by kernel_rfl) rfl ⟨(srt_j 2 rfl (by kernel_rfl) rfl), trivial⟩ (fun w2 hS => by subst hS; exact (totalOf_any _ _ _ HT1.out HM1.out).mono fun e w3 hh => ⟨_, hh.1, hh.2.symm, hh.2 ▸ Below.refl _ _, by rw [← HSS.out]; rfl⟩),
      obt_one (.slice (some ⟨g2, 0, none⟩) n2 c2) rfl rfl (srt_b 2 rfl) (fun ρ w2 hS hx => by subst hS; go_simp),
      obt_move (.int .i64 k) rfl rfl rfl (srt_b 0 rfl),
      obt_two (.slice (some ⟨g2, 0, none⟩) k c2) rfl rfl (srt_j 4 rfl (by kernel_rfl) rfl) (srt_j 5 rfl (by kernel_rfl) rfl) (fun ρ w2 hS hx hy => by go_simp; omega),
      obt_call hst [.slice (some ⟨g2, 0, none⟩) k c2] rfl Tryz.func125 (by kernel_rfl) (by kernel_rfl) rfl ⟨(srt_j 6 rfl (by kernel_rfl) rfl), trivial⟩ (fun w2 hS => by subst hS; exact (totalOf_any _ _ _ HT2.out HM2.out).mono fun e w3 hh => ⟨_, hh.1, hh.2.symm, hh.2 ▸ Below.refl _ _, by rw [← HMM.out]; rfl⟩),
      obt_two (.agg #[.int .i64 s, .int .i64 m]) rfl rfl (srt_j 3 rfl (by kernel_rfl) rfl) (srt_j 7 rfl (by kernel_rfl) rfl) (fun ρ w2 hS hx hy => by go_simp),
      trivial⟩
  case fin =>
    intro a' w' h1 h2 h3 hS h4 K hK
    subst hS
    have hcs := boundAt_cells HBA.out
    have hfz := boundAt_frozen HBA.out
    have v4 : a'.tmps.getD 4 undef = .pointer (some ⟨w.heap.size, 0, none⟩) := h3 4 (by kernel_rfl)
    have v13 : a'.tmps.getD 13 undef = .agg #[.int .i64 s, .int .i64 m] := h4 8 13 rfl (by decide)
    refine run_skip (exec_storeBound (s := s) (m := m) rfl v4 v13 hcs.1 hcs.2 hfz.1 hfz.2) (hK undef _ ?_)
    have ha : a' = ⟨List.toArray [.int .i64 k, .pointer (some ⟨q1, 0, none⟩), .pointer (some ⟨q2, 0, none⟩), undef, .pointer (some ⟨w.heap.size, 0, none⟩), .slice (some ⟨g1, 0, none⟩) n1 c1, .int .i64 k, .slice (some ⟨g1, 0, none⟩) k c1, .int .i64 s, .slice (some ⟨g2, 0, none⟩) n2 c2, .int .i64 k, .slice (some ⟨g2, 0, none⟩) k c2, .int .i64 m, .agg #[.int .i64 s, .int .i64 m]], []⟩ := frame_eq _ h1 h2 ⟨(h3 0 (by kernel_rfl)), (h3 1 (by kernel_rfl)), (h3 2 (by kernel_rfl)), (h3 3 (by kernel_rfl)), (h3 4 (by kernel_rfl)), (h4 0 5 rfl (by decide)), (h4 1 6 rfl (by decide)), (h4 2 7 rfl (by decide)), (h4 3 8 rfl (by decide)), (h4 4 9 rfl (by decide)), (h4 5 10 rfl (by decide)), (h4 6 11 rfl (by decide)), (h4 7 12 rfl (by decide)), (h4 8 13 rfl (by decide)), trivial⟩
    have hp : a'.put none undef = a' := rfl
    refine (congrArg (fun q => Exit.then _ _ Exit.normal q _) (hp.trans ha)).mpr ?_
    have d1 : ((W.drew.setCell ⟨w.heap.size, 0, none⟩ (.int .i64 s)).setCell ⟨w.heap.size, 1, none⟩ (.int .i64 m)).cell? ⟨w.heap.size, 0, none⟩ = some (.int .i64 s) := by
      rw [World.cell?_setCell_other _ _ _ _ (by simp)]; exact World.cell?_setCell_same' _ _ _ (by rw [show W.drew.cell? ⟨w.heap.size, 0, none⟩ = _ from hcs.1]; rfl)
    have d2 : ((W.drew.setCell ⟨w.heap.size, 0, none⟩ (.int .i64 s)).setCell ⟨w.heap.size, 1, none⟩ (.int .i64 m)).cell? ⟨w.heap.size, 1, none⟩ = some (.int .i64 m) := by
      exact World.cell?_setCell_same' _ _ _ (by rw [World.cell?_setCell_other _ _ _ _ (by simp), show W.drew.cell? ⟨w.heap.size, 1, none⟩ = _ from hcs.2]; rfl)
    have HBE := hide ((((below_drew HB.out).setCell (p := ⟨w.heap.size, 0, none⟩) (Nat.le_refl _) (.int .i64 s)).setCell (p := ⟨w.heap.size, 1, none⟩) (Nat.le_refl _) (.int .i64 m)))
    clear hst h1 h2 h3 h4 hK ha hp v4 v13 hcs hfz
    generalize (W.drew.setCell ⟨w.heap.size, 0, none⟩ (.int .i64 s)).setCell ⟨w.heap.size, 1, none⟩ (.int .i64 m) = w9 at d1 d2 HBE ⊢
    go_wp2
    exact bodyPost_ret (v := .agg #[.int .i64 s, .int .i64 m]) (by simp [results, Tryz.results140, go_sem, d1, d2]) rfl ⟨rfl, HBE.out⟩

theorem Tryz.infoBound : (Tryz.prog.info? 144).map (fun i => (i.zero, i.size, i.bytes)) = some (some (.agg #[.int .i64 0, .int .i64 0]), 2, 16) := by kernel_rfl
/-- The first k bounds are written. -/
def Filled (xs : List Value) (S C : List Int) (k : Nat) : Prop := ∀ i, i < k → xs[i * 2]? = some (.int .i64 (S.take (i + 1)).sum) ∧ xs[i * 2 + 1]? = some (.int .i64 (C.take (i + 1)).sum)
theorem filled_step {xs : List Value} {S C : List Int} {k n : Nat} (h : Filled xs S C k) (hl : xs.length = n * 2) (hk : k < n) {s m : Int} (hs : s = (S.take (k + 1)).sum) (hm : m = (C.take (k + 1)).sum) : Filled ((xs.set (k * 2) (.int .i64 s)).set (k * 2 + 1) (.int .i64 m)) S C (k + 1) := fun i hi => by
  by_cases e : i = k
  · subst e
    exact ⟨by rw [List.getElem?_set_ne (by omega), List.getElem?_set_self (by omega), hs], by rw [List.getElem?_set_self (by rw [List.length_set]; omega), hm]⟩
  · obtain ⟨h1, h2⟩ := h i (by omega)
    exact ⟨by rw [List.getElem?_set_ne (by omega), List.getElem?_set_ne (by omega)]; exact h1, by rw [List.getElem?_set_ne (by omega), List.getElem?_set_ne (by omega)]; exact h2⟩
def BoundsRes (bs : List (Int × Int)) (w : World) (e : Ending) (w' : World) : Prop := ∃ v, e = .returned v ∧ InBounds w' v bs ∧ Below w.heap.size w w'
set_option maxHeartbeats 2000000 in
theorem collectBound_any (S C : List Int) (v1 v2 : Value) (q1 q2 n : Nat) (w : World) (h1 : RowAt w v1 S) (h2 : RowAt w v2 C) (hq1 : q1 < w.heap.size) (hq2 : q2 < w.heap.size) (hc1 : w.cell? ⟨q1, 0, none⟩ = some v1) (hc2 : w.cell? ⟨q2, 0, none⟩ = some v2) (hs : SmallL S) (hs2 : SmallL C) (hS : S.length = n) (hC : C.length = n) (hn : n ≤ 5) :
    Calls Tryz.prog 139 #[.int .i64 n, .func (.func 140) #[] #[.pointer (some ⟨q1, 0, none⟩), .pointer (some ⟨q2, 0, none⟩)]] w (BoundsRes (tabB n S C) w) := by
  obtain ⟨i0, hi, hz0, hz1, hz2⟩ := info_parts Tryz.infoBound
  have HCALL := hide fun (w' : World) (k : Nat) (hb : Below w.heap.size w w') (hk : k ≤ n) => boundAtK_any S C v1 v2 q1 q2 k w' (rowAt_below h1 hb) (rowAt_below h2 hb) (Nat.lt_of_lt_of_le hq1 hb.size) (Nat.lt_of_lt_of_le hq2 hb.size) (below_cell hb hq1 hc1) (below_cell hb hq2 hc2) hs hs2 (by omega) (by omega)
  clear h1 h2 hq1 hq2 hc1 hc2 hs hs2 hS hC
  go_enter Tryz.func139, Tryz.ntmps139
  go_wp2_with (at_make; refine wpList_make_full _ rfl _ _ _ rfl w.heap.size 144 i0 _ 2 Tryz.underlying142 hi hz0 hz1 .i64 .i64 n n n rfl rfl rfl rfl (by rw [hz2]; omega) (by unfold maxLen; omega) (Nat.le_refl _) ?_; intro w1 ho hg)
  have HO : Hid (∃ xs, w1.ownsRow w.heap.size 144 2 (.slice (some ⟨w.heap.size, 0, none⟩) n n) n xs ∧ Filled xs S C 0) := hide ⟨_, ho, fun i hi => absurd hi (Nat.not_lt_zero _)⟩
  have HB := hide (grown_below hg (fun k hk => by cases hk) (Nat.le_refl w.heap.size))
  clear ho hg hz0 hz1 hz2 hi
  go_wp2
  go_loopw [10] (fun i w' => ∃ k : Nat, k ≤ n ∧ i = .int .i64 k ∧ (∃ xs, w'.ownsRow w.heap.size 144 2 (.slice (some ⟨w.heap.size, 0, none⟩) n n) n xs ∧ Filled xs S C k) ∧ Below w.heap.size w w') (fun i _ => n - (intOf i).toNat)
  case atStart => exact ⟨0, Nat.zero_le _, rfl, HO.out, HB.out⟩
  case round =>
    clear HO HB
    obtain ⟨k, hk, rfl, ⟨xs, ho, hf⟩, hb⟩ := hrel
    have HO := hide ho; have HF := hide hf; have HB := hide hb
    clear ho hf hb
    by_cases hlt : k < n
    · have HCK := hide (HCALL.out wr (k + 1) HB.out (by omega))
      obtain ⟨s, hs⟩ : ∃ s, s = (S.take (k + 1)).sum := ⟨_, rfl⟩
      obtain ⟨m, hm⟩ : ∃ m, m = (C.take (k + 1)).sum := ⟨_, rfl⟩
      rw [← hs, ← hm] at HCK
      have HFS := hide (filled_step HF.out HO.out.1 hlt hs hm)
      clear hs hm
      go_wp2_with (go_at_call 140; refine HCK.out.mono ?_; rintro e w9 ⟨rfl, hb9⟩; have HO9 := hide (own_below2 HO.out hb9); have HB9 := hide (HB.out.trans (hb9.mono HB.out.size)); clear hb9; obtain ⟨y1, hy1⟩ := own2_cell HO9.out (show k * 2 < n * 2 by omega); obtain ⟨y2, hy2⟩ := own2_cell HO9.out (show k * 2 + 1 < n * 2 by omega); have hf1 := HO9.out.frozenAt (k * 2); have hf2 := HO9.out.frozenAt (k * 2 + 1))
      go_roundw
      case rel => exact ⟨k + 1, by omega, by go_num, ⟨_, ((HO9.out.stored (k * 2) (.int .i64 s)).1.stored (k * 2 + 1) (.int .i64 m)).1, HFS.out⟩, (HB9.out.setCell (p := ⟨w.heap.size, k * 2, none⟩) (Nat.le_refl _) _).setCell (p := ⟨w.heap.size, k * 2 + 1, none⟩) (Nat.le_refl _) _⟩
      case measure => simp [intOf]; omega
    · obtain rfl : k = n := by omega
      go_wp2
      go_ret
      refine ⟨_, rfl, ⟨w.heap.size, k, by rw [tabB_len]; rfl, by rw [tabB_len]; exact Nat.le_refl _, (HO.out.lt _ rfl).2, fun i hi => ?_⟩, HB.out⟩
      rw [tabB_at hi]
      rw [tabB_len] at hi
      obtain ⟨f1, f2⟩ := HF.out i hi
      exact ⟨by rw [HO.out.cellAt _ (by omega)]; exact f1, by rw [HO.out.cellAt _ (by omega)]; exact f2⟩
end Go.Proofs.YtcliiefedmiokaaGreat
/-
  boundsOf.
-/
namespace Go.Proofs.YtcliiefedmiokaaGreat
open Go.RowKit

theorem sumsOk_yes {r c : List Int} (h : sumsOk r c = true) : (1 ≤ r.length ∧ r.length ≤ 5) ∧ (1 ≤ c.length ∧ c.length ≤ 5) ∧ r.any (badB c.length) = false ∧ c.any (badB r.length) = false ∧ r.sum = c.sum := by
  simp only [sumsOk, Bool.and_eq_true, Bool.not_eq_true', beq_iff_eq] at h
  obtain ⟨⟨⟨h1, h2⟩, h3⟩, h4⟩ := h
  have := sizeOk_yes h1
  exact ⟨by omega, by omega, h2, h3, h4⟩
theorem small_perm {s r : List Int} (hp : s.Perm r) (h : SmallL r) : SmallL s :=
  ⟨by rw [hp.length_eq]; exact h.1, fun i hi => by
    obtain ⟨j, hj, e⟩ := List.getElem_of_mem (hp.subset (List.getElem_mem hi))
    rw [← e]; exact h.2 j hj⟩
theorem small_conj {r : List Int} {n : Nat} (hr : r.length ≤ 5) (hn : n ≤ 5) : SmallL (conjL r n) :=
  ⟨by rw [conjL, tabL_len]; exact hn, fun i hi => by
    have h : (conjL r n)[i] = ((atLeast (i + 1) r : Nat) : Int) := tabL_at hi
    have := atLeast_le ((i : Int) + 1) r
    rw [h]; omega⟩
/-- The bounds of the sums r and c. -/
def boundsL (r c : List Int) : List (Int × Int) := tabB c.length (sortD c) (conjL r c.length)
set_option maxHeartbeats 2000000 in
theorem boundsOf_any (va vb : Value) (r c : List Int) (w : World) (ha : InRow w va r) (hb : InRow w vb c) (h : sumsOk r c = true) :
    Calls Tryz.prog 127 #[va, vb] w (BoundsRes (boundsL r c) w) := by
  obtain ⟨hr, hc, hrb, hcb, -⟩ := sumsOk_yes h
  have HA := hide ha; have HB := hide hb
  have HCJ := hide (conj_yes (l := r) hc hr.2 hrb)
  have HS1 := hide (small_perm (sortD_perm c) (small_of (m := r.length) hc.2 (by omega) hcb))
  have HS2 := hide (small_conj (n := c.length) hr.2 hc.2)
  have HL1 := hide (sortD_len c)
  have HL2 : Hid ((conjL r c.length).length = c.length) := hide (by rw [conjL, tabL_len])
  obtain ⟨b, cb, rfl, hmb, -⟩ := hb
  unfold maxLen at hmb
  have HC5 := hide hc
  obtain ⟨C, hC⟩ : ∃ C, C = c.length := ⟨_, rfl⟩
  have HC := hide hC
  rw [boundsL]
  rw [← hC] at HB HCJ HS2 HL1 HL2 HC5 hmb ⊢
  clear ha h hr hc hrb hcb hC
  go_enter Tryz.func127, Tryz.ntmps127
  go_wp2_with ((with_reducible refine (implConj_any va r (C : Int) _ HA.out).mono ?_); rw [HCJ.out]; rintro e w1 ⟨u1, rfl, ho, hb⟩; have HO1 := hide ho; have HB1 := hide hb; obtain ⟨ua, uc, rfl⟩ := own_slice ho; clear ho hb)
  have hbx := (Below.refl w1.heap.size w1).alloc (Nat.le_refl _) (.cells #[.slice ua (conjL r C).length uc] 30)
  have HX := hide (HB1.out.trans (hbx.mono HB1.out.size))
  have HR1 := hide (rowAt_below (rowAt_own HO1.out (by rw [HL2.out]; exact HC5.out.1)) hbx)
  have HP1 := hide (show (w1.alloc (.cells #[.slice ua (conjL r C).length uc] 30)).cell? ⟨w1.heap.size, 0, none⟩ = some (.slice ua (conjL r C).length uc) by simp [World.cell?_alloc_new])
  have HQ1 := hide (show w1.heap.size < (w1.alloc (.cells #[.slice ua (conjL r C).length uc] 30)).heap.size by simp)
  have HI2 := hide (inRow_below HB.out HX.out)
  clear hbx
  refine (implSortedDown_any _ c _ HI2.out (by have := HC5.out; have := HC.out; omega)).mono ?_
  generalize w1.alloc (.cells #[.slice ua (conjL r C).length uc] 30) = W1 at HX HR1 HP1 HQ1 HI2
  rintro e w2 ⟨u2, rfl, ho, hb⟩
  have HO2 := hide ho
  have HP2 := hide (below_cell hb HQ1.out HP1.out)
  have HR2 := hide (rowAt_below HR1.out hb)
  have HQ2 := hide (Nat.lt_of_lt_of_le HQ1.out hb.size)
  have HX2 := hide (HX.out.trans (hb.mono HX.out.size))
  obtain ⟨va2, uc2, rfl⟩ := own_slice ho
  clear ho hb HO1 HX HR1 HP1 HQ1 HI2
  go_wp2_with fail
  have hbx := (Below.refl w2.heap.size w2).alloc (Nat.le_refl _) (.cells #[.slice va2 (sortD c).length uc2] 30)
  have HX3 := hide (HX2.out.trans (hbx.mono HX2.out.size))
  have HS3 := hide (rowAt_below (rowAt_own HO2.out (by rw [HL1.out]; exact HC5.out.1)) hbx)
  have HP3 := hide (show (w2.alloc (.cells #[.slice va2 (sortD c).length uc2] 30)).cell? ⟨w2.heap.size, 0, none⟩ = some (.slice va2 (sortD c).length uc2) by simp [World.cell?_alloc_new])
  have HQ3 := hide (show w2.heap.size < (w2.alloc (.cells #[.slice va2 (sortD c).length uc2] 30)).heap.size by simp)
  have HR3 := hide (rowAt_below HR2.out hbx)
  have HP4 := hide (below_cell hbx HQ2.out HP2.out)
  have HQ4 := hide (Nat.lt_of_lt_of_le HQ2.out hbx.size)
  clear hbx HX2 HO2 HR2 HP2 HQ2
  generalize w2.alloc (.cells #[.slice va2 (sortD c).length uc2] 30) = W2 at HX3 HS3 HP3 HQ3 HR3 HP4 HQ4 ⊢
  refine (collectBound_any (sortD c) (conjL r C) _ _ w2.heap.size w1.heap.size C _ HS3.out HR3.out HQ3.out HQ4.out HP3.out HP4.out HS1.out HS2.out HL1.out HL2.out HC5.out.2).mono ?_
  rintro e w3 ⟨u3, rfl, hi, hb⟩
  have HI := hide hi; have HE := hide (HX3.out.trans (hb.mono HX3.out.size))
  clear hi hb
  go_wp2
  go_ret
  exact ⟨_, rfl, HI.out, HE.out⟩
end Go.Proofs.YtcliiefedmiokaaGreat
/-
  The first broken bound, and the least slack.
-/
namespace Go.Proofs.YtcliiefedmiokaaGreat
open Go.RowKit

/-- The place of the first broken bound, k the place of the first one; -1. -/
def firstB : List (Int × Int) → Int → Int
  | [], _ => -1
  | b :: l, k => if b.2 - b.1 < 0 then k else firstB l (k + 1)
theorem firstB_drop {bs : List (Int × Int)} {k : Nat} (h : k < bs.length) : firstB (bs.drop k) k = if bs[k].2 - bs[k].1 < 0 then (k : Int) else firstB (bs.drop (k + 1)) ((k + 1 : Nat) : Int) := by
  rw [List.drop_eq_getElem_cons h, firstB]; simp
/-- The least slack, a among them. -/
def minB : List (Int × Int) → Int → Int
  | [], a => a
  | b :: l, a => minB l (if b.2 - b.1 < a then b.2 - b.1 else a)
theorem minB_drop {bs : List (Int × Int)} {k : Nat} (h : k < bs.length) (a : Int) : minB (bs.drop k) a = minB (bs.drop (k + 1)) (if bs[k].2 - bs[k].1 < a then bs[k].2 - bs[k].1 else a) := by
  rw [List.drop_eq_getElem_cons h, minB]
/-- Sums of images. -/
def SmallB (bs : List (Int × Int)) : Prop := ∀ i, (h : i < bs.length) → (0 ≤ bs[i].1 ∧ bs[i].1 ≤ 25) ∧ 0 ≤ bs[i].2 ∧ bs[i].2 ≤ 25
theorem smallB_tab {S C : List Int} (n : Nat) (hs : SmallL S) (hc : SmallL C) : SmallB (tabB n S C) := fun i hi => by
  rw [tabB_at hi]; exact ⟨small_sum hs _, small_sum hc _⟩

set_option maxHeartbeats 1000000 in
theorem indexBroken_any (v : Value) (bs : List (Int × Int)) (w : World) (hin : InBounds w v bs) (hs : SmallB bs) (hn : bs.length ≤ 5) :
    Calls Tryz.prog 126 #[v, .func (.func 128) #[] #[]] w fun e w' => e = .returned (.int .i64 (firstB bs 0)) ∧ Below w.heap.size w w' := by
  obtain ⟨g, c, rfl, -, hg, hc⟩ := hin
  have HC := hide hc; have HS := hide hs
  obtain ⟨n, hnn⟩ : ∃ n, n = bs.length := ⟨_, rfl⟩
  have HN := hide hnn
  rw [← hnn] at hn ⊢
  clear hc hs hnn
  go_enter Tryz.func126, Tryz.ntmps126
  go_wp2
  go_loopw [8] (fun i wr => ∃ k : Nat, k ≤ n ∧ i = .int .i64 k ∧ firstB bs 0 = firstB (bs.drop k) k ∧ Below w.heap.size w wr) (fun i _ => n - (intOf i).toNat)
  case atStart => exact ⟨0, Nat.zero_le _, rfl, rfl, Below.refl _ _⟩
  case round =>
    obtain ⟨k, hk, rfl, hf, hb⟩ := hrel
    have HF := hide hf; have HB := hide hb
    clear hf hb
    by_cases hlt : k < n
    · have hk' : k < bs.length := by rw [← HN.out]; exact hlt
      obtain ⟨hc1, hc2⟩ := HC.out k hk'
      have hc1 := below_cell HB.out hg hc1
      have hc2 := below_cell HB.out hg hc2
      have HBR := hide fun w => isBroken_any bs[k].1 bs[k].2 w (HS.out k hk').1 (HS.out k hk').2
      have HD := hide (firstB_drop hk')
      obtain ⟨s, hs⟩ : ∃ s, s = bs[k].1 := ⟨_, rfl⟩
      obtain ⟨m, hm⟩ : ∃ m, m = bs[k].2 := ⟨_, rfl⟩
      rw [← hs] at hc1 HBR HD
      rw [← hm] at hc2 HBR HD
      clear hs hm
      by_cases hbr : m - s < 0
      · have HE := hide (decide_eq_true hbr)
        have HR : Hid (firstB bs 0 = k) := hide (by rw [HF.out, HD.out, if_pos hbr])
        clear hbr
        go_wp2_with (go_at_call 128; refine (HBR.out _).mono ?_; rw [HE.out]; rintro e w9 ⟨rfl, hb⟩; have HB9 := hide (HB.out.trans (hb.mono HB.out.size)); clear hb)
        go_ret
        exact ⟨ret_int HR.out.symm, HB9.out⟩
      · have HE := hide (decide_eq_false hbr)
        have HR : Hid (firstB bs 0 = firstB (bs.drop (k + 1)) ((k + 1 : Nat) : Int)) := hide (by rw [HF.out, HD.out, if_neg hbr])
        clear hbr
        go_wp2_with (go_at_call 128; refine (HBR.out _).mono ?_; rw [HE.out]; rintro e w9 ⟨rfl, hb⟩; have HB9 := hide (HB.out.trans (hb.mono HB.out.size)); clear hb)
        go_roundw
        case rel => exact ⟨k + 1, by omega, by go_num, HR.out, HB9.out⟩
        case measure => simp [intOf]; omega
    · have HR : Hid (firstB bs 0 = -1) := hide (by rw [HF.out, List.drop_of_length_le (by have := HN.out; omega)]; rfl)
      go_wp2
      go_ret
      exact ⟨ret_int HR.out.symm, HB.out⟩

theorem boundAt_set {w : World} {g : Nat} {s m : Int} (h : BoundAt w g s m) (s' m' : Int) : BoundAt ((w.setCell ⟨g, 0, none⟩ (.int .i64 s')).setCell ⟨g, 1, none⟩ (.int .i64 m')) g s' m' := by
  have h1 := heap_setCell_same w g 0 _ _ (.int .i64 s') h
  exact heap_setCell_same _ g 1 _ _ (.int .i64 m') h1
theorem boundAt_other {w : World} {g q : Nat} {s m : Int} (h : BoundAt w g s m) (hne : g ≠ q) (s' m' : Int) : BoundAt ((w.setCell ⟨q, 0, none⟩ (.int .i64 s')).setCell ⟨q, 1, none⟩ (.int .i64 m')) g s m := by
  unfold BoundAt
  rw [heap_setCell_other _ ⟨q, 1, none⟩ g _ (fun e => hne e), heap_setCell_other _ ⟨q, 0, none⟩ g _ (fun e => hne e)]; exact h
def MinRes (bs : List (Int × Int)) (a : Int) (w : World) (e : Ending) (w' : World) : Prop := ∃ s m : Int, e = .returned (.agg #[.int .i64 s, .int .i64 m]) ∧ ((0 ≤ s ∧ s ≤ 25) ∧ 0 ≤ m ∧ m ≤ 25) ∧ m - s = minB (bs.drop 1) a ∧ Below w.heap.size w w'
end Go.Proofs.YtcliiefedmiokaaGreat
/-
  WorstColumns, Exists, SlackOf of the program and of the model.
-/
namespace Go.Proofs.YtcliiefedmiokaaGreat
open Go.RowKit

theorem firstB_range : ∀ (l : List (Int × Int)) (k : Int), 0 ≤ k → -1 ≤ firstB l k ∧ firstB l k < k + l.length ∨ firstB l k = -1
  | [], _, _ => .inr rfl
  | b :: l, k, h => by
    rw [firstB]
    by_cases e : b.2 - b.1 < 0
    · rw [if_pos e]; left; rw [List.length_cons]; omega
    · rw [if_neg e]
      have := firstB_range l (k + 1) (by omega)
      rw [List.length_cons]; omega
theorem boundsL_len (r c : List Int) : (boundsL r c).length = c.length := by rw [boundsL, tabB_len]
theorem boundsL_small {r c : List Int} (h : sumsOk r c = true) : SmallB (boundsL r c) := by
  obtain ⟨hr, hc, -, hcb, -⟩ := sumsOk_yes h
  exact smallB_tab _ (small_perm (sortD_perm c) (small_of (m := r.length) hc.2 (by omega) hcb)) (small_conj hr.2 hc.2)
/-- What WorstColumns, Exists, SlackOf return. -/
def worstOf (r c : List Int) : Int := if sumsOk r c = true then firstB (boundsL r c) 0 + 1 else 0
def existsOf (r c : List Int) : Bool := sumsOk r c && decide (worstOf r c = 0)
def slack0 (bs : List (Int × Int)) : Int := minB (bs.drop 1) ((bs.headD (0, 0)).2 - (bs.headD (0, 0)).1)
def slackOf (r c : List Int) : Int := if existsOf r c = true then slack0 (boundsL r c) else -1
theorem slack0_at {bs : List (Int × Int)} (h : 0 < bs.length) : slack0 bs = minB (bs.drop 1) (bs[0].2 - bs[0].1) := by
  cases bs with
  | nil => exact absurd h (Nat.lt_irrefl 0)
  | cons b l => rfl

set_option maxHeartbeats 400000 in
theorem implWorst_any (va vb : Value) (r c : List Int) (w : World) (ha : InRow w va r) (hb : InRow w vb c) :
    Calls Tryz.prog 92 #[va, vb] w fun e w' => e = .returned (.int .i64 (worstOf r c)) ∧ Below w.heap.size w w' := by
  have HA := hide ha; have HB := hide hb
  clear ha hb
  cases h : sumsOk r c with
  | false =>
    rw [worstOf, if_neg (by rw [h]; decide)]
    have H := hide h
    clear h
    go_enter Tryz.func92, Tryz.ntmps92
    go_wp2_with ((with_reducible refine (implSumsOk_any va vb r c _ HA.out HB.out).mono ?_); rw [H.out]; rintro e w1 ⟨rfl, b1⟩; have B1 := hide b1; clear b1)
    go_ret
    exact ⟨rfl, B1.out⟩
  | true =>
    rw [worstOf, if_pos h]
    have H := hide h
    have HS := hide (boundsL_small h)
    have HL : Hid ((boundsL r c).length ≤ 5) := hide (by rw [boundsL_len]; exact (sumsOk_yes h).2.1.2)
    have hfr := firstB_range (boundsL r c) 0 (Int.le_refl 0)
    have hl := HL.out
    obtain ⟨F, hF⟩ : ∃ F, F = firstB (boundsL r c) 0 := ⟨_, rfl⟩
    have HF := hide hF
    rw [← hF] at hfr ⊢
    have hf1 : -1 ≤ F ∧ F ≤ 5 := by omega
    obtain ⟨hf1, hf2⟩ := hf1
    clear h hF hfr hl
    go_enter Tryz.func92, Tryz.ntmps92
    go_wp2_with (first | ((with_reducible refine (implSumsOk_any va vb r c _ HA.out HB.out).mono ?_); rw [H.out]; rintro e w1 ⟨rfl, b1⟩; have B1 := hide b1; clear b1) | ((with_reducible refine (boundsOf_any va vb r c _ (inRow_below HA.out B1.out) (inRow_below HB.out B1.out) H.out).mono ?_); rintro e w2 ⟨u, rfl, hi, b2⟩; have HI := hide hi; have B2 := hide (B1.out.trans (b2.mono B1.out.size)); clear hi b2) | ((with_reducible refine (indexBroken_any _ (boundsL r c) _ HI.out HS.out HL.out).mono ?_); rw [← HF.out]; rintro e w3 ⟨rfl, b3⟩; have B3 := hide (B2.out.trans (b3.mono B2.out.size)); clear b3))
    go_ret
    exact ⟨rfl, B3.out⟩
set_option maxHeartbeats 400000 in
theorem implExists_any (va vb : Value) (r c : List Int) (w : World) (ha : InRow w va r) (hb : InRow w vb c) :
    Calls Tryz.prog 46 #[va, vb] w fun e w' => e = .returned (.bool (existsOf r c)) ∧ Below w.heap.size w w' := by
  have HA := hide ha; have HB := hide hb
  clear ha hb
  cases h : sumsOk r c with
  | false =>
    rw [existsOf, h]
    have H := hide h
    clear h
    go_enter Tryz.func46, Tryz.ntmps46
    go_wp2_with ((with_reducible refine (implSumsOk_any va vb r c _ HA.out HB.out).mono ?_); rw [H.out]; rintro e w1 ⟨rfl, b1⟩; have B1 := hide b1; clear b1)
    go_ret
    exact ⟨rfl, B1.out⟩
  | true =>
    rw [existsOf, h]
    have H := hide h
    obtain ⟨F, hF⟩ : ∃ F, F = worstOf r c := ⟨_, rfl⟩
    have HF := hide hF
    rw [← hF]
    clear h hF
    go_enter Tryz.func46, Tryz.ntmps46
    go_wp2_with (first | ((with_reducible refine (implSumsOk_any va vb r c _ HA.out HB.out).mono ?_); rw [H.out]; rintro e w1 ⟨rfl, b1⟩; have B1 := hide b1; clear b1) | ((with_reducible refine (implWorst_any va vb r c _ (inRow_below HA.out B1.out) (inRow_below HB.out B1.out)).mono ?_); rw [← HF.out]; rintro e w2 ⟨rfl, b2⟩; have B2 := hide (B1.out.trans (b2.mono B1.out.size)); clear b2))
    go_ret
    exact ⟨ret_bool (by by_cases e : F = 0 <;> simp [e]), B2.out⟩
end Go.Proofs.YtcliiefedmiokaaGreat
/-
  Gale and Ryser: the inequalities hold exactly if there is an image.
-/
namespace Go.Proofs.YtcliiefedmiokaaGreat
open Go.RowKit Mx

theorem S_cons (f : Nat → Int) : ∀ n, S (n + 1) f = f 0 + S n fun i => f (i + 1)
  | 0 => by rw [S, S, S]; omega
  | n + 1 => by rw [S, S_cons f n, S]; omega
theorem sum_S (l : List Int) : l.sum = S l.length fun i => l.getD i 0 := by
  induction l with
  | nil => rfl
  | cons x l ih => rw [List.sum_cons, ih, List.length_cons, S_cons]; simp
theorem map_S (h : Int → Int) (l : List Int) : (l.map h).sum = S l.length fun i => h (l.getD i 0) := by
  rw [sum_S, List.length_map]
  refine S_congr _ fun i hi => ?_
  simp [List.getD_eq_getElem?_getD, hi]
theorem perm_sum {a b : List Int} (h : a.Perm b) : a.sum = b.sum := by
  induction h with
  | nil => rfl
  | cons x _ ih => rw [List.sum_cons, List.sum_cons, ih]
  | swap x y l => rw [List.sum_cons, List.sum_cons, List.sum_cons, List.sum_cons]; omega
  | trans _ _ h1 h2 => rw [h1, h2]

/-- What of x is above v. -/
def upG (v x : Int) : Int := if v ≤ x then x - v else 0
theorem upP_all (v : Int) : ∀ (l : List Int), (∀ x ∈ l, v ≤ x) → (l.map (upG v)).sum = l.sum - l.length * v
  | [], _ => by simp
  | x :: l, h => by
    rw [List.map_cons, List.sum_cons, List.sum_cons, upP_all v l (fun y hy => h y (List.mem_cons_of_mem _ hy)), upG, if_pos (h x List.mem_cons_self), List.length_cons]
    have : (((l.length + 1 : Nat) : Int)) * v = l.length * v + v := by rw [show (((l.length + 1 : Nat) : Int)) = (l.length : Int) + 1 by omega, Int.add_mul, Int.one_mul]
    omega
theorem upP_none (v : Int) : ∀ (l : List Int), (∀ x ∈ l, x ≤ v) → (l.map (upG v)).sum = 0
  | [], _ => rfl
  | x :: l, h => by
    rw [List.map_cons, List.sum_cons, upP_none v l (fun y hy => h y (List.mem_cons_of_mem _ hy)), upG]
    have := h x List.mem_cons_self
    split <;> omega
/-- No k columns have more than the k greatest. -/
theorem top_most (c : List Int) (T : Nat → Bool) (k : Nat) (hk : (k : Int) = S c.length (on T fun _ => 1)) (hk1 : 1 ≤ k) (hkC : k ≤ c.length) : S c.length (on T fun x => c.getD x 0) ≤ ((sortD c).take k).sum := by
  have hl := sortD_len c
  have hlt : k - 1 < (sortD c).length := by omega
  obtain ⟨v, hv⟩ : ∃ v, v = (sortD c)[k - 1] := ⟨_, rfl⟩
  have hd := List.pairwise_iff_getElem.1 (sortD_desc c)
  have h1 : ((sortD c).take k).sum = k * v + ((sortD c).map (upG v)).sum := by
    rw [← List.take_append_drop k (sortD c), List.map_append, List.sum_append, upP_all v ((sortD c).take k), upP_none v ((sortD c).drop k)]
    · have : ((sortD c).take k).length = k := by rw [List.length_take]; omega
      rw [this, List.take_append_of_le_length (by omega), List.take_of_length_le (by omega)]; omega
    · intro x hx
      obtain ⟨i, hi, rfl⟩ := List.getElem_of_mem hx
      rw [List.length_drop] at hi
      rw [List.getElem_drop, hv]
      exact hd (k - 1) (k + i) hlt (by omega) (by omega)
    · intro x hx
      obtain ⟨i, hi, rfl⟩ := List.getElem_of_mem hx
      rw [List.length_take] at hi
      rw [List.getElem_take, hv]
      by_cases e : i = k - 1
      · subst e; exact Int.le_refl _
      · exact hd i (k - 1) (by omega) hlt (by omega)
  rw [h1, perm_sum ((sortD_perm c).map (upG v)), map_S, hk]
  have h2 : S c.length (on T fun _ => 1) * v = S c.length (on T fun _ => v) := by
    clear h1 hk hv hlt hkC
    generalize c.length = n
    induction n with
    | zero => rw [S, S, Int.zero_mul]
    | succ n ih =>
      rw [S, S, Int.add_mul, ih]
      congr 1
      unfold on
      split <;> simp
  rw [h2, ← S_add]
  refine S_le _ fun x _ => ?_
  dsimp only [on, upG]
  split <;> split <;> omega

/-- The sum of the elements that are marked. -/
def msum : List Bool → List Int → Int
  | b :: bs, x :: l => (if b then x else 0) + msum bs l
  | _, _ => 0
def mcnt : List Bool → Int
  | [] => 0
  | b :: bs => (if b then 1 else 0) + mcnt bs
theorem marks_perm {a b : List Int} (h : a.Perm b) : ∀ bs : List Bool, bs.length = a.length → ∃ bs' : List Bool, bs'.length = b.length ∧ msum bs' b = msum bs a ∧ mcnt bs' = mcnt bs := by
  induction h with
  | nil => intro bs h; exact ⟨bs, h, rfl, rfl⟩
  | cons x _ ih =>
    intro bs h
    cases bs with
    | nil => simp at h
    | cons y bs =>
      obtain ⟨bs', h1, h2, h3⟩ := ih bs (by simpa using h)
      exact ⟨y :: bs', by simpa using h1, by rw [msum, msum, h2], by rw [mcnt, mcnt, h3]⟩
  | swap x y l =>
    intro bs h
    match bs, h with
    | p :: q :: bs, h => exact ⟨q :: p :: bs, by simpa using h, by simp only [msum]; omega, by simp only [mcnt]; omega⟩
  | trans _ _ h1 h2 =>
    intro bs h
    obtain ⟨b1, a1, a2, a3⟩ := h1 bs h
    obtain ⟨b2, c1, c2, c3⟩ := h2 b1 a1
    exact ⟨b2, c1, c2.trans a2, c3.trans a3⟩
theorem marks_take : ∀ (l : List Int) (k : Nat), k ≤ l.length → ∃ bs : List Bool, bs.length = l.length ∧ msum bs l = (l.take k).sum ∧ mcnt bs = k
  | [], k, h => ⟨[], rfl, by simp [msum], by simp at h; subst h; rfl⟩
  | x :: l, 0, _ => by
    obtain ⟨bs, h1, h2, h3⟩ := marks_take l 0 (Nat.zero_le _)
    exact ⟨false :: bs, by simpa using h1, by simp [msum]; simpa using h2, by simp [mcnt]; simpa using h3⟩
  | x :: l, k + 1, h => by
    obtain ⟨bs, h1, h2, h3⟩ := marks_take l k (by simpa using h)
    exact ⟨true :: bs, by simpa using h1, by simp [msum, h2], by simp [mcnt, h3]; omega⟩
theorem msum_S : ∀ (bs : List Bool) (l : List Int), bs.length = l.length → msum bs l = S l.length (on (fun x => bs.getD x false) fun x => l.getD x 0)
  | [], [], _ => rfl
  | [], _ :: _, h => by simp at h
  | _ :: _, [], h => by simp at h
  | b :: bs, x :: l, h => by
    rw [msum, msum_S bs l (by simpa using h), List.length_cons, S_cons]
    rfl
theorem mcnt_S : ∀ (bs : List Bool), mcnt bs = S bs.length (on (fun x => bs.getD x false) fun _ => 1)
  | [] => rfl
  | b :: bs => by
    rw [mcnt, mcnt_S bs, List.length_cons, S_cons]
    rfl
/-- Some k columns have as much as the k greatest. -/
theorem top_some (c : List Int) (k : Nat) (hk : k ≤ c.length) : ∃ T : Nat → Bool, S c.length (on T fun _ => 1) = k ∧ S c.length (on T fun x => c.getD x 0) = ((sortD c).take k).sum := by
  obtain ⟨bs, h1, h2, h3⟩ := marks_take (sortD c) k (by rw [sortD_len]; exact hk)
  obtain ⟨bs', g1, g2, g3⟩ := marks_perm (sortD_perm c) bs h1
  exact ⟨fun x => bs'.getD x false, by rw [← g1, ← mcnt_S, g3, h3], by rw [← msum_S _ _ g1, g2, h2]⟩

/-- m is an image with these sums. -/
structure ImgF (r c : List Int) (m : Nat → Nat → Int) : Prop where
  cell : ∀ y x, y < r.length → x < c.length → m y x = 0 ∨ m y x = 1
  row : ∀ y, y < r.length → S c.length (m y) = r.getD y 0
  col : ∀ x, x < c.length → S r.length (fun y => m y x) = c.getD x 0
def HasImg (r c : List Int) : Prop := ∃ m, ImgF r c m

theorem firstB_none : ∀ (l : List (Int × Int)) (k : Int), 0 ≤ k → (firstB l k = -1 ↔ ∀ b ∈ l, b.1 ≤ b.2)
  | [], _, _ => by simp [firstB]
  | b :: l, k, h => by
    rw [firstB]
    by_cases e : b.2 - b.1 < 0
    · rw [if_pos e]
      constructor
      · intro h'; omega
      · intro h'; have := h' b List.mem_cons_self; omega
    · rw [if_neg e, firstB_none l (k + 1) (by omega)]
      constructor
      · intro h' x hx
        rcases List.mem_cons.1 hx with rfl | hx
        · omega
        · exact h' x hx
      · intro h' x hx; exact h' x (List.mem_cons_of_mem _ hx)
theorem boundsL_at {r c : List Int} {i : Nat} (h : i < (boundsL r c).length) : (boundsL r c)[i] = (((sortD c).take (i + 1)).sum, ((conjL r c.length).take (i + 1)).sum) := tabB_at h
theorem existsOf_iff (r c : List Int) : existsOf r c = true ↔ sumsOk r c = true ∧ ∀ k, 1 ≤ k → k ≤ c.length → ((sortD c).take k).sum ≤ S r.length fun y => min (r.getD y 0) k := by
  unfold existsOf worstOf
  rw [Bool.and_eq_true, decide_eq_true_eq]
  refine and_congr_right fun hs => ?_
  rw [if_pos hs]
  obtain ⟨-, -, hrb, -, -⟩ := sumsOk_yes hs
  have hr : ∀ x ∈ r, 0 ≤ x := fun x hx => by
    rw [List.any_eq_false] at hrb
    have := hrb x hx
    simp only [badB, Bool.or_eq_true, decide_eq_true_eq, not_or] at this
    omega
  have hm : ∀ k, k ≤ c.length → ((conjL r c.length).take k).sum = S r.length fun y => min (r.getD y 0) k := fun k hk => by
    rw [← most_sum hr k hk, map_S]
  rw [show (firstB (boundsL r c) 0 + 1 = 0) ↔ firstB (boundsL r c) 0 = -1 by omega, firstB_none _ _ (Int.le_refl _)]
  constructor
  · intro h k hk1 hk2
    have := h ((boundsL r c)[k - 1]'(by rw [boundsL_len]; omega)) (List.getElem_mem _)
    rw [boundsL_at, show k - 1 + 1 = k by omega] at this
    rw [← hm k hk2]; exact this
  · intro h b hb
    obtain ⟨i, hi, rfl⟩ := List.getElem_of_mem hb
    have hi' : i < c.length := by rw [boundsL_len] at hi; exact hi
    have := h (i + 1) (by omega) (by omega)
    rw [boundsL_at]
    rw [← hm (i + 1) (by omega)] at this; exact this

theorem kc_row (C : Nat) (a : Bool) (O : Nat → Bool) : S C (fun x => kc a (O x) 1 0) = if a then S C (on (fun x => !O x) fun _ => 1) else 0 := by
  cases a with
  | true => rw [if_pos rfl]; exact S_congr C fun x _ => by cases e : O x <;> simp [kc, on, e]
  | false => rw [if_neg (by decide), S_congr C (g := fun _ => 0) (fun x _ => by cases O x <;> simp [kc]), S_zero]
theorem on_not (C : Nat) (O : Nat → Bool) (f : Nat → Int) : S C (on O f) + S C (on (fun x => !O x) f) = S C f := by
  rw [← S_add]
  exact S_congr C fun x _ => by cases e : O x <;> simp [on, e]
theorem count_range (C : Nat) (T : Nat → Bool) : 0 ≤ S C (on T fun _ => 1) ∧ S C (on T fun _ => 1) ≤ C := by
  induction C with
  | zero => simp [S]
  | succ n ih => rw [S]; dsimp only [on] at ih ⊢; split <;> omega
theorem count_zero {C : Nat} {T : Nat → Bool} (h : S C (on T fun _ => 1) = 0) (f : Nat → Int) : S C (on T f) = 0 := by
  induction C with
  | zero => rfl
  | succ n ih =>
    rw [S] at h ⊢
    have h1 := (count_range n T).1
    cases ht : T n with
    | true => simp [on, ht] at h h1; omega
    | false => simp [on, ht] at h ⊢; exact ih h
/-- Where the inequalities hold there is an image. -/
theorem img_of_exists {r c : List Int} (h : existsOf r c = true) : HasImg r c := by
  obtain ⟨hs, hk⟩ := (existsOf_iff r c).1 h
  obtain ⟨hr, hc, hrb, hcb, hsum⟩ := sumsOk_yes hs
  have ht : (S r.length fun y => r.getD y 0) = S c.length fun x => c.getD x 0 := by rw [← sum_S, ← sum_S]; exact hsum
  have hr0 : ∀ y, y < r.length → 0 ≤ r.getD y 0 := fun y hy => by
    rw [List.getD_eq_getElem?_getD, List.getElem?_eq_getElem hy, Option.getD_some]
    rw [List.any_eq_false] at hrb
    have := hrb _ (List.getElem_mem hy)
    simp only [badB, Bool.or_eq_true, decide_eq_true_eq, not_or] at this
    omega
  obtain ⟨m, h1, h2, h3⟩ := exists_between r.length c.length (fun y => r.getD y 0) (fun x => c.getD x 0) ht _ (fun _ _ => 0) (fun _ _ => 1) (Nat.le_refl _) (fun y x _ _ => ⟨.inl rfl, .inr rfl, by decide⟩) (fun L O => by
    unfold over
    obtain ⟨n0, n1⟩ := count_range c.length (fun x => !O x)
    obtain ⟨k, hkk⟩ : ∃ k : Nat, (k : Int) = S c.length (on (fun x => !O x) fun _ => 1) := ⟨(S c.length (on (fun x => !O x) fun _ => 1)).toNat, by omega⟩
    have htop : S c.length (on (fun x => !O x) fun x => c.getD x 0) ≤ S r.length fun y => min (r.getD y 0) k := by
      by_cases e : k = 0
      · rw [count_zero (by omega)]
        exact S_nonneg _ fun y hy => by have := hr0 y hy; omega
      · exact Int.le_trans (top_most c _ k hkk (by omega) (by omega)) (hk k (by omega) (by omega))
    have hO := on_not c.length O fun x => c.getD x 0
    have hcell : (S r.length fun y => S c.length fun x => kc (L y) (O x) 1 0) = S r.length (on L fun _ => k) := S_congr _ fun y _ => by rw [kc_row, ← hkk]; rfl
    rw [hcell]
    have hrow : S r.length (on L fun y => r.getD y 0) - S r.length (on L fun _ => (k : Int)) ≤ (S r.length fun y => r.getD y 0) - S r.length fun y => min (r.getD y 0) k := by
      rw [← S_sub, ← S_sub]
      refine S_le _ fun y _ => ?_
      dsimp only [on]
      split <;> omega
    omega)
  exact ⟨m, fun y x hy hx => by have := h1 y x hy hx; omega, h2, h3⟩
theorem cell_le {n : Nat} {f : Nat → Int} (h : ∀ i, i < n → f i = 0 ∨ f i = 1) : 0 ≤ S n f ∧ S n f ≤ n := by
  induction n with
  | zero => simp [S]
  | succ n ih =>
    have := ih fun i hi => h i (by omega)
    have := h n (by omega)
    rw [S]; omega
/-- The sums of an image are sums, and the inequalities hold. -/
theorem exists_of_img {r c : List Int} (hr : 1 ≤ r.length ∧ r.length ≤ 5) (hc : 1 ≤ c.length ∧ c.length ≤ 5) (h : HasImg r c) : existsOf r c = true := by
  obtain ⟨m, hm⟩ := h
  have hs : sumsOk r c = true := by
    unfold sumsOk sizeOk
    simp only [Bool.and_eq_true, decide_eq_true_eq, Bool.not_eq_true', beq_iff_eq]
    refine ⟨⟨⟨⟨by omega, by omega⟩, any_no fun y hy => ?_⟩, any_no fun x hx => ?_⟩, ?_⟩
    · have h1 := hm.row y hy
      rw [List.getD_eq_getElem?_getD, List.getElem?_eq_getElem hy, Option.getD_some] at h1
      have h2 := cell_le (f := m y) (n := c.length) fun x hx => hm.cell y x hy hx
      rw [← h1, badB, decide_eq_false (by omega), decide_eq_false (by omega)]; rfl
    · have h1 := hm.col x hx
      rw [List.getD_eq_getElem?_getD, List.getElem?_eq_getElem hx, Option.getD_some] at h1
      have h2 := cell_le (f := fun y => m y x) (n := r.length) fun y hy => hm.cell y x hy hx
      rw [← h1, badB, decide_eq_false (by omega), decide_eq_false (by omega)]; rfl
    · rw [sum_S, sum_S, ← S_congr _ hm.row, S_swap]
      exact S_congr _ hm.col
  refine (existsOf_iff r c).2 ⟨hs, fun k hk1 hk2 => ?_⟩
  obtain ⟨T, h1, h2⟩ := top_some c k hk2
  rw [← h2, S_congr c.length (g := fun x => S r.length fun y => if T x then m y x else 0) (fun x hx => by
    dsimp only [on]
    by_cases e : T x = true
    · rw [if_pos e, ← hm.col x hx]; exact S_congr _ fun y _ => by rw [if_pos e]
    · rw [if_neg e, S_congr r.length (g := fun _ => 0) (fun y _ => by rw [if_neg e]), S_zero]), S_swap]
  refine S_le _ fun y hy => ?_
  have a1 : (S c.length fun x => if T x then m y x else 0) ≤ S c.length (m y) := S_le _ fun x hx => by
    have := hm.cell y x hy hx
    split <;> omega
  have a2 : (S c.length fun x => if T x then m y x else 0) ≤ S c.length (on T fun _ => 1) := S_le _ fun x hx => by
    have := hm.cell y x hy hx
    dsimp only [on]
    split <;> omega
  rw [hm.row y hy] at a1
  rw [h1] at a2
  omega
end Go.Proofs.YtcliiefedmiokaaGreat
/-
  All images with given sums, row by row; the least one; what a row of one can be.
-/
namespace Go.Proofs.YtcliiefedmiokaaGreat
open Go.RowKit Mx

/-- All rows of so many cells with so many black ones, in order. -/
def rowsLn : Nat → Int → List (List Int)
  | 0, k => if k = 0 then [[]] else []
  | n + 1, k => (if 0 ≤ k then (rowsLn n k).map (0 :: ·) else []) ++ if 1 ≤ k then (rowsLn n (k - 1)).map (1 :: ·) else []
/-- A row of n cells, a of them black. -/
def RowOf (n : Nat) (a : Int) (row : List Int) : Prop := row.length = n ∧ (∀ x ∈ row, x = 0 ∨ x = 1) ∧ row.sum = a
theorem sum_nonneg01 : ∀ (l : List Int), (∀ x ∈ l, x = 0 ∨ x = 1) → 0 ≤ l.sum
  | [], _ => Int.le_refl _
  | x :: l, h => by
    have := sum_nonneg01 l fun y hy => h y (List.mem_cons_of_mem _ hy)
    have := h x List.mem_cons_self
    rw [List.sum_cons]; omega
theorem mem_rowsL : ∀ (n : Nat) (k : Int) (row : List Int), row ∈ rowsLn n k ↔ RowOf n k row
  | 0, k, row => by
    unfold rowsLn RowOf
    by_cases h : k = 0
    · rw [if_pos h, List.mem_singleton]
      constructor
      · rintro rfl; exact ⟨rfl, by simp, by simp [h]⟩
      · rintro ⟨h1, -, -⟩; exact List.eq_nil_of_length_eq_zero h1
    · rw [if_neg h]
      constructor
      · intro h'; simp at h'
      · rintro ⟨h1, -, h3⟩
        rw [List.eq_nil_of_length_eq_zero h1] at h3; exact absurd h3.symm h
  | n + 1, k, row => by
    unfold rowsLn
    rw [List.mem_append]
    constructor
    · rintro (h | h)
      · by_cases h0 : 0 ≤ k
        · rw [if_pos h0, List.mem_map] at h
          obtain ⟨r, hr, rfl⟩ := h
          obtain ⟨h1, h2, h3⟩ := (mem_rowsL n k r).1 hr
          exact ⟨by simp [h1], fun x hx => by rcases List.mem_cons.1 hx with rfl | hx; exact .inl rfl; exact h2 x hx, by simp [h3]⟩
        · rw [if_neg h0] at h; simp at h
      · by_cases h0 : 1 ≤ k
        · rw [if_pos h0, List.mem_map] at h
          obtain ⟨r, hr, rfl⟩ := h
          obtain ⟨h1, h2, h3⟩ := (mem_rowsL n (k - 1) r).1 hr
          exact ⟨by simp [h1], fun x hx => by rcases List.mem_cons.1 hx with rfl | hx; exact .inr rfl; exact h2 x hx, by simp [h3]; omega⟩
        · rw [if_neg h0] at h; simp at h
    · rintro ⟨h1, h2, h3⟩
      cases row with
      | nil => simp at h1
      | cons x r =>
        have hr : ∀ y ∈ r, y = 0 ∨ y = 1 := fun y hy => h2 y (List.mem_cons_of_mem _ hy)
        have hn := sum_nonneg01 r hr
        rw [List.sum_cons] at h3
        rcases h2 x List.mem_cons_self with rfl | rfl
        · left
          rw [if_pos (by omega), List.mem_map]
          exact ⟨r, (mem_rowsL n k r).2 ⟨by simpa using h1, hr, by omega⟩, rfl⟩
        · right
          rw [if_pos (by omega), List.mem_map]
          exact ⟨r, (mem_rowsL n (k - 1) r).2 ⟨by simpa using h1, hr, by omega⟩, rfl⟩
theorem rowOf_cell {n : Nat} {a : Int} {row : List Int} (h : RowOf n a row) {x : Nat} (hx : x < n) : row.getD x 0 = 0 ∨ row.getD x 0 = 1 := by
  rw [List.getD_eq_getElem?_getD, List.getElem?_eq_getElem (by rw [h.1]; exact hx), Option.getD_some]
  exact h.2.1 _ (List.getElem_mem _)
theorem rowOf_tab {n : Nat} {f : Nat → Int} (h : ∀ x, x < n → f x = 0 ∨ f x = 1) : RowOf n (S n f) (tabL n f) := by
  refine ⟨tabL_len _ _, fun x hx => ?_, ?_⟩
  · obtain ⟨i, hi, rfl⟩ := List.getElem_of_mem hx
    rw [tabL_at]; exact h i (by rw [tabL_len] at hi; exact hi)
  · rw [sum_S, tabL_len]; exact S_congr _ fun i hi => tabL_getD hi
theorem rowOf_self {n : Nat} {a : Int} {row : List Int} (h : RowOf n a row) : row = tabL n fun x => row.getD x 0 := by
  rw [← h.1]; exact (tabL_self row).symm

/-- There is an image for the rows that are left, of which there may be none. -/
def restB (r c : List Int) : Bool := if r = [] then !c.any (badB 0) else existsOf r c
theorem img_nil (c : List Int) : HasImg [] c ↔ ∀ x, x < c.length → c.getD x 0 = 0 := by
  constructor
  · rintro ⟨m, hm⟩ x hx; exact (hm.col x hx).symm
  · intro h; exact ⟨fun _ _ => 0, fun y x hy => absurd hy (Nat.not_lt_zero _), fun y hy => absurd hy (Nat.not_lt_zero _), fun x hx => (h x hx).symm⟩
theorem restB_iff {r c : List Int} (hr : r.length ≤ 5) (hc : 1 ≤ c.length ∧ c.length ≤ 5) : restB r c = true ↔ HasImg r c := by
  unfold restB
  by_cases h : r = []
  · rw [if_pos h, h, img_nil]
    simp only [Bool.not_eq_true', List.any_eq_false]
    constructor
    · intro h1 x hx
      rw [List.getD_eq_getElem?_getD, List.getElem?_eq_getElem hx, Option.getD_some]
      have := h1 _ (List.getElem_mem hx)
      simp only [badB, Bool.or_eq_true, decide_eq_true_eq, not_or] at this
      omega
    · intro h1 x hx
      obtain ⟨i, hi, rfl⟩ := List.getElem_of_mem hx
      have := h1 i hi
      rw [List.getD_eq_getElem?_getD, List.getElem?_eq_getElem hi, Option.getD_some] at this
      simp [badB, this]
  · rw [if_neg h]
    have : 1 ≤ r.length := by cases r with
      | nil => exact absurd rfl h
      | cons x l => simp
    exact ⟨img_of_exists, exists_of_img ⟨this, hr⟩ hc⟩
theorem subL_getD {c row : List Int} {x : Nat} (h : x < c.length) : (subL c row).getD x 0 = c.getD x 0 - row.getD x 0 := tabL_getD h
/-- The first row taken off, and put back. -/
theorem img_cons (a : Int) (r c : List Int) (m : Nat → Nat → Int) : ImgF (a :: r) c m ↔ RowOf c.length a (tabL c.length (m 0)) ∧ ImgF r (subL c (tabL c.length (m 0))) fun y => m (y + 1) := by
  constructor
  · intro h
    have h0 : ∀ x, x < c.length → m 0 x = 0 ∨ m 0 x = 1 := fun x hx => h.cell 0 x (by simp) hx
    have h1 := h.row 0 (by simp)
    refine ⟨?_, fun y x hy hx => ?_, fun y hy => ?_, fun x hx => ?_⟩
    · have := rowOf_tab h0
      rw [h1] at this; simpa using this
    · rw [subL_len] at hx; exact h.cell (y + 1) x (by simpa using hy) hx
    · rw [subL_len]; have := h.row (y + 1) (by simpa using hy); simpa using this
    · rw [subL_len] at hx
      have := h.col x hx
      rw [List.length_cons, S_cons] at this
      rw [subL_getD hx, tabL_getD hx]; omega
  · rintro ⟨h0, h1⟩
    refine ⟨fun y x hy hx => ?_, fun y hy => ?_, fun x hx => ?_⟩
    · cases y with
      | zero => have := rowOf_cell h0 hx; rwa [tabL_getD hx] at this
      | succ y => exact h1.cell y x (by simpa using hy) (by rw [subL_len]; exact hx)
    · cases y with
      | zero =>
        have := h0.2.2
        rw [sum_S, tabL_len] at this
        rw [S_congr c.length (g := fun x => (tabL c.length (m 0)).getD x 0) (fun x hx => (tabL_getD hx).symm), this]; rfl
      | succ y => have := h1.row y (by simpa using hy); rw [subL_len] at this; simpa using this
    · have := h1.col x (by rw [subL_len]; exact hx)
      rw [subL_getD hx, tabL_getD hx] at this
      rw [List.length_cons, S_cons]; omega
theorem hasImg_cons (a : Int) (r c : List Int) : HasImg (a :: r) c ↔ ∃ row, RowOf c.length a row ∧ HasImg r (subL c row) := by
  constructor
  · rintro ⟨m, hm⟩
    obtain ⟨h1, h2⟩ := (img_cons a r c m).1 hm
    exact ⟨_, h1, _, h2⟩
  · rintro ⟨row, h1, m, hm⟩
    refine ⟨fun y x => match y with | 0 => row.getD x 0 | y + 1 => m y x, (img_cons a r c _).2 ⟨?_, ?_⟩⟩
    · rw [← rowOf_self h1]; exact h1
    · rw [← rowOf_self h1]; exact hm

/-- The rows that can stand first. -/
def firstRows (a : Int) (r c : List Int) : List (List Int) := (rowsLn c.length a).filter fun row => restB r (subL c row)
theorem firstRows_ne {a : Int} {r c : List Int} (hr : r.length ≤ 5) (hc : 1 ≤ c.length ∧ c.length ≤ 5) (h : HasImg (a :: r) c) : firstRows a r c ≠ [] := by
  obtain ⟨row, h1, h2⟩ := (hasImg_cons a r c).1 h
  have : row ∈ firstRows a r c := List.mem_filter.2 ⟨(mem_rowsL _ _ _).2 h1, (restB_iff hr (by rw [subL_len]; exact hc)).2 h2⟩
  intro e; rw [e] at this; simp at this
/-- The least row that can stand first. -/
def leastCh : List Int → List Int → List Int
  | [], _ => []
  | a :: r, c => (firstRows a r c).headD []
theorem leastCh_mem {a : Int} {r c : List Int} (hr : r.length ≤ 5) (hc : 1 ≤ c.length ∧ c.length ≤ 5) (h : HasImg (a :: r) c) : leastCh (a :: r) c ∈ firstRows a r c := by
  have := firstRows_ne hr hc h
  show (firstRows a r c).headD [] ∈ firstRows a r c
  cases e : firstRows a r c with
  | nil => exact absurd e this
  | cons x l => exact List.mem_cons_self
theorem leastCh_spec {a : Int} {r c : List Int} (hr : r.length ≤ 5) (hc : 1 ≤ c.length ∧ c.length ≤ 5) (h : HasImg (a :: r) c) : RowOf c.length a (leastCh (a :: r) c) ∧ HasImg r (subL c (leastCh (a :: r) c)) := by
  obtain ⟨h1, h2⟩ := List.mem_filter.1 (leastCh_mem hr hc h)
  exact ⟨(mem_rowsL _ _ _).1 h1, (restB_iff hr (by rw [subL_len]; exact hc)).1 h2⟩

/-- All images with these sums, in order. -/
def allL : List Int → List Int → List (List (List Int))
  | [], _ => [[]]
  | a :: r, c => (rowsLn c.length a).flatMap fun row => if restB r (subL c row) then (allL r (subL c row)).map (row :: ·) else []
theorem flat_first {α β : Type} (p : α → Bool) (f : α → List β) (hf : ∀ x, p x = false → f x = []) : ∀ (l : List α), (l.filter p).headD = (l.filter p).headD ∧ ∀ x r, l.filter p = x :: r → ∃ l', l.flatMap f = f x ++ l'
  | [] => ⟨rfl, fun x r h => by simp at h⟩
  | y :: l => by
    refine ⟨rfl, fun x r h => ?_⟩
    rw [List.filter_cons] at h
    cases hp : p y with
    | true =>
      rw [hp, if_pos rfl] at h
      simp only [List.cons.injEq] at h
      exact ⟨l.flatMap f, by rw [List.flatMap_cons, h.1]⟩
    | false =>
      rw [hp, if_neg (by decide)] at h
      obtain ⟨l', hl⟩ := (flat_first p f hf l).2 x r h
      exact ⟨l', by rw [List.flatMap_cons, hf y hp, List.nil_append, hl]⟩
/-- The first one of all is the one whose rows are the least. -/
theorem all_first : ∀ (r c : List Int), r.length ≤ 5 → (1 ≤ c.length ∧ c.length ≤ 5) → HasImg r c → ∃ l, allL r c = imgL leastCh r c :: l
  | [], c, _, _, _ => ⟨[], rfl⟩
  | a :: r, c, hr, hc, h => by
    rw [List.length_cons] at hr
    have hm := leastCh_mem (by omega) hc h
    obtain ⟨-, h2⟩ := leastCh_spec (by omega) hc h
    obtain ⟨l, hl⟩ := all_first r (subL c (leastCh (a :: r) c)) (by omega) (by rw [subL_len]; exact hc) h2
    have hcons : ∃ q, firstRows a r c = leastCh (a :: r) c :: q := by
      show ∃ q, firstRows a r c = (firstRows a r c).headD [] :: q
      cases e : firstRows a r c with
      | nil => exact absurd e (firstRows_ne (by omega) hc h)
      | cons x q => exact ⟨q, rfl⟩
    obtain ⟨q, hq⟩ := hcons
    obtain ⟨l', hl'⟩ := (flat_first (fun row => restB r (subL c row)) (fun row => if restB r (subL c row) then (allL r (subL c row)).map (row :: ·) else []) (fun x hx => by rw [hx]; simp) (rowsLn c.length a)).2 _ q hq
    have hrest : restB r (subL c (leastCh (a :: r) c)) = true := (List.mem_filter.1 hm).2
    refine ⟨l.map (leastCh (a :: r) c :: ·) ++ l', ?_⟩
    rw [allL, hl', if_pos hrest, hl, imgL]; simp
/-- The rows of an image that is given by its cells. -/
def listF (n C : Nat) (m : Nat → Nat → Int) : List (List Int) := (List.range n).map fun y => tabL C (m y)
theorem listF_succ (n C : Nat) (m : Nat → Nat → Int) : listF (n + 1) C m = tabL C (m 0) :: listF n C fun y => m (y + 1) := by
  unfold listF
  rw [List.range_succ_eq_map, List.map_cons, List.map_map]; rfl
theorem all_complete : ∀ (r c : List Int), r.length ≤ 5 → (1 ≤ c.length ∧ c.length ≤ 5) → ∀ m, ImgF r c m → listF r.length c.length m ∈ allL r c
  | [], c, _, _, m, _ => by simp [listF, allL]
  | a :: r, c, hr, hc, m, h => by
    rw [List.length_cons] at hr
    obtain ⟨h1, h2⟩ := (img_cons a r c m).1 h
    have ih := all_complete r _ (by omega) (by rw [subL_len]; exact hc) _ h2
    rw [subL_len] at ih
    rw [List.length_cons, listF_succ, allL, List.mem_flatMap]
    refine ⟨_, (mem_rowsL _ _ _).2 h1, ?_⟩
    rw [if_pos ((restB_iff (by omega) (by rw [subL_len]; exact hc)).2 ⟨_, h2⟩)]
    exact List.mem_map.2 ⟨_, ih, rfl⟩
theorem all_sound : ∀ (r c : List Int), r.length ≤ 5 → (1 ≤ c.length ∧ c.length ≤ 5) → HasImg r c → ∀ l ∈ allL r c, l.length = r.length ∧ (∀ q ∈ l, q.length = c.length) ∧ ImgF r c fun y x => (l.getD y []).getD x 0
  | [], c, _, _, h, l, hl => by
    simp only [allL, List.mem_singleton] at hl
    subst hl
    exact ⟨rfl, by simp, fun y x hy => absurd hy (Nat.not_lt_zero _), fun y hy => absurd hy (Nat.not_lt_zero _), fun x hx => ((img_nil c).1 h x hx).symm⟩
  | a :: r, c, hr, hc, h, l, hl => by
    rw [List.length_cons] at hr
    rw [allL, List.mem_flatMap] at hl
    obtain ⟨row, hrow, hl⟩ := hl
    have hR := (mem_rowsL _ _ _).1 hrow
    by_cases hb : restB r (subL c row) = true
    · rw [if_pos hb, List.mem_map] at hl
      obtain ⟨l', hl', rfl⟩ := hl
      have hc' : 1 ≤ (subL c row).length ∧ (subL c row).length ≤ 5 := by rw [subL_len]; exact hc
      obtain ⟨h1, h2, h3⟩ := all_sound r _ (by omega) hc' ((restB_iff (by omega) hc').1 hb) l' hl'
      refine ⟨by simp [h1], fun q hq => ?_, (img_cons a r c _).2 ⟨?_, ?_⟩⟩
      · rcases List.mem_cons.1 hq with rfl | hq
        · exact hR.1
        · rw [h2 q hq, subL_len]
      · rw [show tabL c.length (fun x => ((row :: l').getD 0 []).getD x 0) = row from (rowOf_self hR).symm]; exact hR
      · rw [show tabL c.length (fun x => ((row :: l').getD 0 []).getD x 0) = row from (rowOf_self hR).symm]; exact h3
    · rw [if_neg hb] at hl; simp at hl

/-- Row y left out. -/
def delF {α : Type} (m : Nat → α) (y i : Nat) : α := if i < y then m i else m (i + 1)
theorem S_del (f : Nat → Int) (y : Nat) : ∀ n, y ≤ n → S (n + 1) f = S n (delF f y) + f y
  | 0, h => by obtain rfl : y = 0 := by omega
               rw [S, S, S]
  | n + 1, h => by
    by_cases e : y = n + 1
    · subst e
      rw [S, S_congr (n + 1) (f := f) (g := delF f (n + 1)) (fun i hi => by rw [delF, if_pos hi])]
    · rw [S, S_del f y n (by omega), S, delF, if_neg (by omega)]; omega
theorem erase_getD (r : List Int) (y i : Nat) : (r.eraseIdx y).getD i 0 = delF (fun i => r.getD i 0) y i := by
  unfold delF
  simp only [List.getD_eq_getElem?_getD, List.getElem?_eraseIdx]
  split <;> rfl
/-- An image without its row y. -/
theorem img_del {r c : List Int} {m : Nat → Nat → Int} {y : Nat} (hy : y < r.length) : ImgF r c m ↔ RowOf c.length (r.getD y 0) (tabL c.length (m y)) ∧ ImgF (r.eraseIdx y) (subL c (tabL c.length (m y))) (delF m y) := by
  have hl : (r.eraseIdx y).length = r.length - 1 := List.length_eraseIdx_of_lt hy
  obtain ⟨n, hn⟩ : ∃ n, r.length = n + 1 := ⟨r.length - 1, by omega⟩
  have hcol : ∀ x, S r.length (fun i => m i x) = S n (fun i => delF m y i x) + m y x := fun x => by
    rw [hn, S_del (fun i => m i x) y n (by omega)]
    congr 1
    exact S_congr _ fun i _ => by unfold delF; split <;> rfl
  constructor
  · intro h
    refine ⟨?_, fun i x hi hx => ?_, fun i hi => ?_, fun x hx => ?_⟩
    · have := rowOf_tab (n := c.length) (f := m y) fun x hx => h.cell y x hy hx
      rw [h.row y hy] at this; exact this
    · rw [subL_len] at hx
      unfold delF
      split
      · exact h.cell i x (by omega) hx
      · exact h.cell (i + 1) x (by omega) hx
    · rw [subL_len, erase_getD]
      unfold delF
      split
      · exact h.row i (by omega)
      · exact h.row (i + 1) (by omega)
    · rw [subL_len] at hx
      have := h.col x hx
      rw [hcol] at this
      rw [subL_getD hx, tabL_getD hx, hl, hn, Nat.add_sub_cancel]; omega
  · rintro ⟨h0, h1⟩
    have hcell : ∀ i, i < r.length → i ≠ y → ∃ j, j < (r.eraseIdx y).length ∧ m i = delF m y j ∧ r.getD i 0 = (r.eraseIdx y).getD j 0 := fun i hi hne => by
      by_cases e : i < y
      · exact ⟨i, by omega, by rw [delF, if_pos e], by rw [erase_getD, delF, if_pos e]⟩
      · refine ⟨i - 1, by omega, by rw [delF, if_neg (by omega), show i - 1 + 1 = i by omega], by rw [erase_getD, delF, if_neg (by omega), show i - 1 + 1 = i by omega]⟩
    refine ⟨fun i x hi hx => ?_, fun i hi => ?_, fun x hx => ?_⟩
    · by_cases e : i = y
      · subst e; have := rowOf_cell h0 hx; rwa [tabL_getD hx] at this
      · obtain ⟨j, hj, hm, -⟩ := hcell i hi e
        rw [hm]; exact h1.cell j x hj (by rw [subL_len]; exact hx)
    · by_cases e : i = y
      · subst e
        have := h0.2.2
        rw [sum_S, tabL_len] at this
        rw [← this]; exact S_congr _ fun x hx => (tabL_getD hx).symm
      · obtain ⟨j, hj, hm, hrj⟩ := hcell i hi e
        have := h1.row j hj
        rw [subL_len] at this
        rw [hm, hrj]; exact this
    · have := h1.col x (by rw [subL_len]; exact hx)
      rw [subL_getD hx, tabL_getD hx, hl, hn, Nat.add_sub_cancel] at this
      rw [hcol]; omega
/-- What can stand in row y. -/
def rowsAtL (r c : List Int) (y : Nat) : List (List Int) := (rowsLn c.length (r.getD y 0)).filter fun row => restB (r.eraseIdx y) (subL c row)
theorem rowsAt_zero (a : Int) (r c : List Int) : rowsAtL (a :: r) c 0 = firstRows a r c := rfl
/-- A cell is so in one of the images exactly if it is so in one of the rows. -/
theorem place_iff {r c : List Int} {y x : Nat} (v : Int) (hr : r.length ≤ 5) (hc : 1 ≤ c.length ∧ c.length ≤ 5) (hy : y < r.length) (h : HasImg r c) :
    ((allL r c).any fun m => (m.getD y []).getD x 0 == v) = (rowsAtL r c y).any fun row => row.getD x 0 == v := by
  have hc' : ∀ row, 1 ≤ (subL c row).length ∧ (subL c row).length ≤ 5 := fun row => by rw [subL_len]; exact hc
  have hl : (r.eraseIdx y).length ≤ 5 := by rw [List.length_eraseIdx_of_lt hy]; omega
  rw [Bool.eq_iff_iff, List.any_eq_true, List.any_eq_true]
  constructor
  · rintro ⟨m, hm, hv⟩
    obtain ⟨h1, h2, h3⟩ := all_sound r c hr hc h m hm
    obtain ⟨g1, g2⟩ := (img_del hy).1 h3
    have he : m.getD y [] = tabL c.length fun x => (m.getD y []).getD x 0 := by
      have : (m.getD y []).length = c.length := h2 _ (by rw [List.getD_eq_getElem?_getD, List.getElem?_eq_getElem (by omega), Option.getD_some]; exact List.getElem_mem _)
      rw [← this]; exact (tabL_self _).symm
    refine ⟨m.getD y [], List.mem_filter.2 ⟨(mem_rowsL _ _ _).2 (by rw [he]; exact g1), (restB_iff hl (hc' _)).2 ?_⟩, hv⟩
    rw [he]; exact ⟨_, g2⟩
  · rintro ⟨row, hrow, hv⟩
    obtain ⟨g1, g2⟩ := List.mem_filter.1 hrow
    have hR := (mem_rowsL _ _ _).1 g1
    obtain ⟨m', hm'⟩ := (restB_iff hl (hc' _)).1 g2
    let m : Nat → Nat → Int := fun i x => if i < y then m' i x else if i = y then row.getD x 0 else m' (i - 1) x
    have e1 : tabL c.length (m y) = row := by
      rw [show m y = fun x => row.getD x 0 from funext fun x => by simp [m]]
      exact (rowOf_self hR).symm
    have e2 : ∀ i, delF m y i = m' i := fun i => by
      unfold delF
      funext x
      split
      · rename_i hi; simp [m, hi]
      · rename_i hi; simp only [m]; rw [if_neg (by omega), if_neg (by omega), Nat.add_sub_cancel]
    have hI : ImgF r c m := (img_del hy).2 ⟨by rw [e1]; exact hR, by rw [e1, show delF m y = m' from funext e2]; exact hm'⟩
    refine ⟨listF r.length c.length m, all_complete r c hr hc m hI, ?_⟩
    have : (listF r.length c.length m).getD y [] = row := by
      rw [List.getD_eq_getElem?_getD]
      simp only [listF, List.getElem?_map, List.getElem?_range hy, Option.map_some, Option.getD_some, e1]
    rw [this]; exact hv
end Go.Proofs.YtcliiefedmiokaaGreat
/-
  Contracts of the library, at this translation: laid by the shelf, in plain declarations.
-/
namespace Go.Proofs
open Go.Shelf Go.RowKit Go.Lib
def Tryz.laysNm215_ren : Go.Shelf.Ren := ⟨fun | 15 => 103 | n => n, fun | 22 => 30 | 3 => 3 | 4 => 4 | n => n, fun | n => n⟩
theorem Tryz.laysNm215 : Go.Proofs.Lays2.n15 Tryz.prog Tryz.laysNm215_ren := {
  mixed := by kernel_rfl
  f15 := Tryz.func103.trans (congrArg some (by kernel_rfl))
  t3 := Tryz.underlying3
  a3 := Tryz.isAgg3
  z3 := Tryz.sizeOf3
  v3 := Tryz.zeroValue3
  t4 := Tryz.underlying4
  a4 := Tryz.isAgg4
  z4 := Tryz.sizeOf4
  v4 := Tryz.zeroValue4
  t22 := Tryz.underlying30
  a22 := Tryz.isAgg30
  z22 := Tryz.sizeOf30
  v22 := Tryz.zeroValue30
  i3 := by kernel_rfl }
theorem Tryz.slices_Clone_int (b off n c : Nat) (zs : List Int) (w : World) (hz : n ≤ zs.length) (hbig : n * 8 ≤ 140737488355328) (hc : ∀ j, j < zs.length → w.cell? ⟨b, off + j, none⟩ = some (.int .i64 (zs.getD j 0))) :
    Calls Tryz.prog 103 #[.slice (some ⟨b, off, none⟩) n c] w fun e w' => ∃ v', e = .returned v' ∧ w'.ownsRow w.heap.size 3 1 v' n ((zs.take n).map (Value.int .i64)) ∧ v' ≠ .slice none 0 0 ∧ Below w.heap.size w w' := Any.slices_Clone_int Tryz.laysNm215 b off n c zs w hz hbig hc
theorem Tryz.slices_Clone_int_nil (n c : Nat) (w : World) :
    Calls Tryz.prog 103 #[.slice none n c] w fun e w' => e = .returned (.slice none 0 0) ∧ w' = w := Any.slices_Clone_int_nil Tryz.laysNm215 n c w
theorem Tryz.slices_Clone_int_zero (a : Addr) (c : Nat) (w : World) :
    Calls Tryz.prog 103 #[.slice (some a) 0 c] w fun e w' => ∃ v', e = .returned v' ∧ w'.ownsRow w.heap.size 3 1 v' 0 [] ∧ v' ≠ .slice none 0 0 ∧ Below w.heap.size w w' := Any.slices_Clone_int_zero Tryz.laysNm215 a c w
end Go.Proofs
