/-
  The first broken bound, and the least slack.
-/
import Derived.Test.YtcpmocjdkfkliaaBoundsOf
namespace Go.Proofs.Ytcpmocjdkfkliaa
open Go.RowKit

/-- The place of the first broken bound, k the place of the first one; -1. -/
def firstB : List (Int × Int) → Int → Int
  | [], _ => -1
  | b :: l, k => if b.2 - b.1 < 0 then k else firstB l (k + 1)
theorem firstB_drop {bs : List (Int × Int)} {k : Nat} (h : k < bs.length) : firstB (bs.drop k) k = if bs[k].2 - bs[k].1 < 0 then (k : Int) else firstB (bs.drop (k + 1)) ((k + 1 : Nat) : Int) := by
  rw [List.drop_eq_getElem_cons h, firstB]; simp
/-- The least slack, a among them. -/
def minB : List (Int × Int) → Int → Int
  | [], a => a
  | b :: l, a => minB l (if b.2 - b.1 < a then b.2 - b.1 else a)
theorem minB_drop {bs : List (Int × Int)} {k : Nat} (h : k < bs.length) (a : Int) : minB (bs.drop k) a = minB (bs.drop (k + 1)) (if bs[k].2 - bs[k].1 < a then bs[k].2 - bs[k].1 else a) := by
  rw [List.drop_eq_getElem_cons h, minB]
/-- Sums of images. -/
def SmallB (bs : List (Int × Int)) : Prop := ∀ i, (h : i < bs.length) → (0 ≤ bs[i].1 ∧ bs[i].1 ≤ 25) ∧ 0 ≤ bs[i].2 ∧ bs[i].2 ≤ 25
theorem smallB_tab {S C : List Int} (n : Nat) (hs : SmallL S) (hc : SmallL C) : SmallB (tabB n S C) := fun i hi => by
  rw [tabB_at hi]; exact ⟨small_sum hs _, small_sum hc _⟩

set_option maxHeartbeats 1000000 in
theorem indexBroken_any (v : Value) (bs : List (Int × Int)) (w : World) (hin : InBounds w v bs) (hs : SmallB bs) (hn : bs.length ≤ 5) :
    Calls Try.prog 38 #[v, .func (.func 40) #[] #[]] w fun e w' => e = .returned (.int .i64 (firstB bs 0)) ∧ Below w.heap.size w w' := by
  obtain ⟨g, c, rfl, -, hg, hc⟩ := hin
  have HC := hide hc; have HS := hide hs
  obtain ⟨n, hnn⟩ : ∃ n, n = bs.length := ⟨_, rfl⟩
  have HN := hide hnn
  rw [← hnn] at hn ⊢
  clear hc hs hnn
  go_enter Try.func38, Try.ntmps38
  go_wp2
  go_loopw [8] (fun i wr => ∃ k : Nat, k ≤ n ∧ i = .int .i64 k ∧ firstB bs 0 = firstB (bs.drop k) k ∧ Below w.heap.size w wr) (fun i _ => n - (intOf i).toNat)
  case atStart => exact ⟨0, Nat.zero_le _, rfl, rfl, Below.refl _ _⟩
  case round =>
    obtain ⟨k, hk, rfl, hf, hb⟩ := hrel
    have HF := hide hf; have HB := hide hb
    clear hf hb
    by_cases hlt : k < n
    · have hk' : k < bs.length := by rw [← HN.out]; exact hlt
      obtain ⟨hc1, hc2⟩ := HC.out k hk'
      have hc1 := below_cell HB.out hg hc1
      have hc2 := below_cell HB.out hg hc2
      have HBR := hide fun w => isBroken_any bs[k].1 bs[k].2 w (HS.out k hk').1 (HS.out k hk').2
      have HD := hide (firstB_drop hk')
      obtain ⟨s, hs⟩ : ∃ s, s = bs[k].1 := ⟨_, rfl⟩
      obtain ⟨m, hm⟩ : ∃ m, m = bs[k].2 := ⟨_, rfl⟩
      rw [← hs] at hc1 HBR HD
      rw [← hm] at hc2 HBR HD
      clear hs hm
      by_cases hbr : m - s < 0
      · have HE := hide (decide_eq_true hbr)
        have HR : Hid (firstB bs 0 = k) := hide (by rw [HF.out, HD.out, if_pos hbr])
        clear hbr
        go_wp2_with (go_at_call 40; refine (HBR.out _).mono ?_; rw [HE.out]; rintro e w9 ⟨rfl, hb⟩; have HB9 := hide (HB.out.trans (hb.mono HB.out.size)); clear hb)
        go_ret
        exact ⟨ret_int HR.out.symm, HB9.out⟩
      · have HE := hide (decide_eq_false hbr)
        have HR : Hid (firstB bs 0 = firstB (bs.drop (k + 1)) ((k + 1 : Nat) : Int)) := hide (by rw [HF.out, HD.out, if_neg hbr])
        clear hbr
        go_wp2_with (go_at_call 40; refine (HBR.out _).mono ?_; rw [HE.out]; rintro e w9 ⟨rfl, hb⟩; have HB9 := hide (HB.out.trans (hb.mono HB.out.size)); clear hb)
        go_roundw
        case rel => exact ⟨k + 1, by omega, by go_num, HR.out, HB9.out⟩
        case measure => simp [intOf]; omega
    · have HR : Hid (firstB bs 0 = -1) := hide (by rw [HF.out, List.drop_of_length_le (by have := HN.out; omega)]; rfl)
      go_wp2
      go_ret
      exact ⟨ret_int HR.out.symm, HB.out⟩

theorem boundAt_set {w : World} {g : Nat} {s m : Int} (h : BoundAt w g s m) (s' m' : Int) : BoundAt ((w.setCell ⟨g, 0, none⟩ (.int .i64 s')).setCell ⟨g, 1, none⟩ (.int .i64 m')) g s' m' := by
  have h1 := heap_setCell_same w g 0 _ _ (.int .i64 s') h
  exact heap_setCell_same _ g 1 _ _ (.int .i64 m') h1
theorem boundAt_other {w : World} {g q : Nat} {s m : Int} (h : BoundAt w g s m) (hne : g ≠ q) (s' m' : Int) : BoundAt ((w.setCell ⟨q, 0, none⟩ (.int .i64 s')).setCell ⟨q, 1, none⟩ (.int .i64 m')) g s m := by
  unfold BoundAt
  rw [heap_setCell_other _ ⟨q, 1, none⟩ g _ (fun e => hne e), heap_setCell_other _ ⟨q, 0, none⟩ g _ (fun e => hne e)]; exact h
def MinRes (bs : List (Int × Int)) (a : Int) (w : World) (e : Ending) (w' : World) : Prop := ∃ s m : Int, e = .returned (.agg #[.int .i64 s, .int .i64 m]) ∧ ((0 ≤ s ∧ s ≤ 25) ∧ 0 ≤ m ∧ m ≤ 25) ∧ m - s = minB (bs.drop 1) a ∧ Below w.heap.size w w'
set_option maxRecDepth 100000 in
set_option maxHeartbeats 2000000 in
theorem minFunc_any (v : Value) (bs : List (Int × Int)) (w : World) (hin : InBounds w v bs) (hs : SmallB bs) (hn : bs.length ≤ 5) (h0 : 0 < bs.length) :
    Calls Try.prog 42 #[v, .func (.func 43) #[] #[]] w (MinRes bs (bs[0].2 - bs[0].1) w) := by
  have mixed : Try.prog.follows .mixedOrders = true := by kernel_rfl
  obtain ⟨g, c, rfl, -, hg, hc⟩ := hin
  have HC := hide hc; have HS := hide hs
  have HS0 := hide (hs 0 h0)
  obtain ⟨hc1, hc2⟩ := hc 0 h0
  obtain ⟨s0, hs0⟩ : ∃ s, s = bs[0].1 := ⟨_, rfl⟩
  obtain ⟨m0, hm0⟩ : ∃ m, m = bs[0].2 := ⟨_, rfl⟩
  rw [← hs0] at hc1 HS0 ⊢
  rw [← hm0] at hc2 HS0 ⊢
  obtain ⟨n, hnn⟩ : ∃ n, n = bs.length := ⟨_, rfl⟩
  have HN := hide hnn
  rw [← hnn] at hn h0 ⊢
  clear hc hs hs0 hm0 hnn
  go_enter Try.func42, Try.ntmps42
  go_wp2
  obtain ⟨W, hW⟩ : ∃ W, W = (w.alloc (.cells #[.int .i64 0, .int .i64 0] 45)).alloc (.cells #[.int .i64 s0, .int .i64 m0] 45) := ⟨_, rfl⟩
  have HB0 : Hid (Below w.heap.size w W) := hide (by rw [hW]; exact ((Below.refl _ _).alloc (Nat.le_refl _) _).alloc (by simp) _)
  have HR0 : Hid (BoundAt W w.heap.size 0 0) := hide (by rw [hW]; exact boundAt_below (heap_alloc_new w _) ((Below.refl _ _).alloc (Nat.le_refl _) _))
  have HM0 : Hid (BoundAt W (w.heap.size + 1) s0 m0) := hide (by
    rw [hW]; have := heap_alloc_new (w.alloc (.cells #[.int .i64 0, .int .i64 0] 45)) (.cells #[.int .i64 s0, .int .i64 m0] 45); rw [World.size_alloc] at this; exact this)
  rw [← hW]
  clear hW hc1 hc2
  go_loopw [6] (fun i wr => ∃ k : Nat, 1 ≤ k ∧ k ≤ n ∧ i = .int .i64 k ∧ (∃ s m : Int, BoundAt wr (w.heap.size + 1) s m ∧ ((0 ≤ s ∧ s ≤ 25) ∧ 0 ≤ m ∧ m ≤ 25) ∧ minB (bs.drop k) (m - s) = minB (bs.drop 1) (m0 - s0)) ∧ BoundAt wr w.heap.size 0 0 ∧ Below w.heap.size w wr) (fun i _ => n - (intOf i).toNat)
  case atStart => exact ⟨1, Nat.le_refl _, h0, rfl, ⟨s0, m0, HM0.out, HS0.out, rfl⟩, HR0.out, HB0.out⟩
  case round =>
    clear HB0 HR0 HM0
    obtain ⟨k, hk1, hk, rfl, ⟨s, m, hm, hsm, hmin⟩, hr, hb⟩ := hrel
    have HM := hide hm; have HSM := hide hsm; have HMIN := hide hmin; have HR := hide hr; have HB := hide hb
    clear hm hsm hmin hr hb
    by_cases hlt : k < n
    · have hk' : k < bs.length := by rw [← HN.out]; exact hlt
      obtain ⟨hc1, hc2⟩ := HC.out k hk'
      have hgw := Nat.lt_of_lt_of_le hg HB.out.size
      have hc1 := fun p os => cell_grown (a := ⟨g, k * 2, none⟩) hgw (below_cell HB.out hg hc1) p os
      have hc2 := fun p os => cell_grown (a := ⟨g, k * 2 + 1, none⟩) hgw (below_cell HB.out hg hc2) p os
      have hc3 := fun p os => (boundAt_cells (load_bound HM.out p os)).1
      have hc4 := fun p os => (boundAt_cells (load_bound HM.out p os)).2
      have HCMP := hide fun w => bySlack_any bs[k].1 bs[k].2 s m w (HS.out k hk').1 (HS.out k hk').2 HSM.out.1 HSM.out.2
      have HD := hide (minB_drop hk' (m - s))
      have HSK := hide (HS.out k hk')
      obtain ⟨s1, hs1⟩ : ∃ s, s = bs[k].1 := ⟨_, rfl⟩
      obtain ⟨m1, hm1⟩ : ∃ m, m = bs[k].2 := ⟨_, rfl⟩
      rw [← hs1] at hc1 HCMP HD HSK
      rw [← hm1] at hc2 HCMP HD HSK
      clear hs1 hm1
      obtain ⟨z, HZ⟩ : ∃ z, Hid (z = cmpI (m1 - s1) (m - s)) := ⟨_, hide rfl⟩
      rw [← HZ.out] at HCMP
      have HZN := hide (cmpI_neg (m1 - s1) (m - s))
      rw [← HZ.out] at HZN
      have HGB := hide fun p os => HB.out.trans ((grownW_below ⟨p, os, rfl⟩ : Below wr.heap.size wr (Go.Sort.grow (wr.drewN p) os)).mono HB.out.size)
      have HGM := hide fun p os => load_bound HM.out p os
      have HGR := hide fun p os => load_bound HR.out p os
      by_cases hz : z < 0
      · have HD2 : Hid (minB (bs.drop (k + 1)) (m1 - s1) = minB (bs.drop 1) (m0 - s0)) := hide (by rw [← HMIN.out, HD.out, if_pos (HZN.out ▸ hz)])
        go_wp2
        go_quiet_grown (first | (go_at_call 43; exact quiet_of (HCMP.out _)))
        have d1 := hc1 nq osq; have d2 := hc2 nq osq
        have HB5 := hide (HGB.out nq osq); have HM5 := hide (HGM.out nq osq); have HR5 := hide (HGR.out nq osq)
        clear hc1 hc2 hc3 hc4 HGB HGM HGR
        generalize Go.Sort.grow (wr.drewN nq) osq = w5 at d1 d2 HB5 HM5 HR5 ⊢
        obtain ⟨d3, d4⟩ := boundAt_cells HM5.out
        obtain ⟨f3, f4⟩ := boundAt_frozen HM5.out
        have HMS := hide (boundAt_set HM5.out s1 m1)
        have HRS := hide (boundAt_other HR5.out (show w.heap.size ≠ w.heap.size + 1 by omega) s1 m1)
        go_wp2
        go_roundw
        case rel => exact ⟨k + 1, by omega, by omega, by go_num, ⟨s1, m1, HMS.out, HSK.out, HD2.out⟩, HRS.out, (HB5.out.setCell (p := ⟨w.heap.size + 1, 0, none⟩) (Nat.le_succ _) _).setCell (p := ⟨w.heap.size + 1, 1, none⟩) (Nat.le_succ _) _⟩
        case measure => simp [intOf]; omega
      · have HD2 : Hid (minB (bs.drop (k + 1)) (m - s) = minB (bs.drop 1) (m0 - s0)) := hide (by rw [← HMIN.out, HD.out, if_neg (HZN.out ▸ hz)])
        go_wp2
        go_quiet_grown (first | (go_at_call 43; exact quiet_of (HCMP.out _)))
        have HB5 := hide (HGB.out nq osq); have HM5 := hide (HGM.out nq osq); have HR5 := hide (HGR.out nq osq)
        clear hc1 hc2 hc3 hc4 HGB HGM HGR
        generalize Go.Sort.grow (wr.drewN nq) osq = w5 at HB5 HM5 HR5 ⊢
        go_wp2
        go_roundw
        case rel => exact ⟨k + 1, by omega, by omega, by go_num, ⟨s, m, HM5.out, HSM.out, HD2.out⟩, HR5.out, HB5.out⟩
        case measure => simp [intOf]; omega
    · have HE : Hid (m - s = minB (bs.drop 1) (m0 - s0)) := hide (by have := HMIN.out; rwa [List.drop_of_length_le (by have := HN.out; omega)] at this)
      obtain ⟨d3, d4⟩ := boundAt_cells HM.out
      obtain ⟨d1, d2⟩ := boundAt_cells HR.out
      obtain ⟨f1, f2⟩ := boundAt_frozen HR.out
      have e1 := (boundAt_cells (boundAt_set HR.out s m)).1
      have e2 := (boundAt_cells (boundAt_set HR.out s m)).2
      have HBE := hide ((HB.out.setCell (p := ⟨w.heap.size, 0, none⟩) (Nat.le_refl _) (.int .i64 s)).setCell (p := ⟨w.heap.size, 1, none⟩) (Nat.le_refl _) (.int .i64 m))
      go_wp2
      exact bodyPost_ret (v := .agg #[.int .i64 s, .int .i64 m]) (by simp [results, Try.results42, go_sem, e1, e2]) rfl ⟨s, m, rfl, HSM.out, HE.out, HBE.out⟩
end Go.Proofs.Ytcpmocjdkfkliaa
