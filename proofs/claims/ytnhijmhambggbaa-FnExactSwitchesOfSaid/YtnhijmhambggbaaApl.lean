/-
  l06Apply of the model: an image after one of its switches.
-/
import Derived.Test.YtnhijmhambggbaaSpecP
import Derived.Test.YtnhijmhambggbaaSwd
namespace Go.Proofs.Ytnhijmhambggbaa
open Go.RowKit

/-- The cells after the first n of the four. -/
def stepM (f : Nat → Nat → Int) (a b c d : Nat) : Nat → Nat → Nat → Int
  | 0 => f
  | n + 1 => fun y x => if y = pickN a b (n / 2) ∧ x = pickN c d (n % 2) then 1 - f y x else stepM f a b c d n y x
theorem stepM_all (f : Nat → Nat → Int) (a b c d : Nat) : stepM f a b c d 4 = flipN f a b c d := by
  have e : stepM f a b c d 4 = fun y x => if y = b ∧ x = d then 1 - f y x else if y = b ∧ x = c then 1 - f y x else if y = a ∧ x = d then 1 - f y x else if y = a ∧ x = c then 1 - f y x else f y x := rfl
  rw [e]
  funext y x
  unfold flipN
  by_cases h1 : y = a <;> by_cases h2 : y = b <;> by_cases h3 : x = c <;> by_cases h4 : x = d <;> simp [h1, h2, h3, h4]
theorem stepM_cell {R C : Nat} {f : Nat → Nat → Int} (h : Img R C f) (a b c d : Nat) : ∀ n, Img R C (stepM f a b c d n)
  | 0 => h
  | n + 1 => ⟨h.r1, h.r2, h.c1, h.c2, fun y x hy hx => by
    have := h.cell y x hy hx
    have := (stepM_cell h a b c d n).cell y x hy hx
    unfold stepM
    split <;> omega⟩

/-- Two integers in a block. -/
def PairAt (w : World) (g a b : Nat) : Prop := w.heap[g]? = some (.cells #[.int .i64 (a : Int), .int .i64 (b : Int)] 3 (0, 0))
theorem pair_lt {w : World} {g a b : Nat} (h : PairAt w g a b) : g < w.heap.size := (Array.getElem?_eq_some_iff.1 h).1
theorem pair_below {w w' : World} {g a b : Nat} (h : PairAt w g a b) (hb : Below w.heap.size w w') : PairAt w' g a b := by
  unfold PairAt; rw [hb.block g (pair_lt h)]; exact h
theorem pair_set {w : World} {g a b : Nat} (h : PairAt w g a b) (p : Addr) (v : Value) (hne : g ≠ p.block) : PairAt (w.setCell p v) g a b := by
  unfold PairAt; rw [heap_setCell_other w p g v hne]; exact h
theorem pair_cell {w : World} {g a b : Nat} (h : PairAt w g a b) (i : Nat) (hi : i < 2) : w.cell? ⟨g, i, none⟩ = some (.int .i64 ((pickN a b i : Nat) : Int)) := by
  rw [cell_of_row w g i _ _ _ h]
  have : i = 0 ∨ i = 1 := by omega
  rcases this with rfl | rfl <;> rfl
set_option maxRecDepth 100000 in
set_option maxHeartbeats 4000000 in
theorem l06Apply_any (v : Value) (R C : Nat) (f : Nat → Nat → Int) (a b c d : Nat) (w : World) (hin : InMat w v (mkM R C f)) (hI : Img R C f) (ha : a < R) (hb : b < R) (hc : c < C) (hd : d < C) :
    Calls Try.prog 73 #[v, swV ⟨a, b, c, d⟩] w (MatRes (mkM R C (flipN f a b c d)) w) := by
  rw [← stepM_all]
  have hR := hI.r2; have hC := hI.c2; have hR1 := hI.r1; have hC1 := hI.c1
  have HPA : Hid (∀ i, pickN a b i < R) := hide fun i => by unfold pickN; split <;> omega
  have HPC : Hid (∀ i, pickN c d i < C) := hide fun i => by unfold pickN; split <;> omega
  have HSTEP : Hid (∀ n, stepM f a b c d (n + 1) = fun y x => if y = pickN a b (n / 2) ∧ x = pickN c d (n % 2) then 1 - f y x else stepM f a b c d n y x) := hide fun _ => rfl
  have HZERO : Hid (stepM f a b c d 0 = f) := hide rfl
  obtain ⟨G, hG⟩ : ∃ G, G = stepM f a b c d := ⟨_, rfl⟩
  rw [← hG] at HSTEP HZERO ⊢
  clear hG
  have HI := hide hin; have H := hide hI
  have HCELL := hide hI.cell
  obtain ⟨g0, o0, c0, rfl, hg0, hcell⟩ := inMat_img hin (by omega) (by omega)
  have HC := hide hcell
  obtain ⟨s, hs⟩ : ∃ s : Sw, s = ⟨a, b, c, d⟩ := ⟨_, rfl⟩
  have HSW := hide hs
  rw [← hs]
  clear hs hin hI hcell
  go_enter Try.func73, Try.ntmps73
  go_wp2_with (first | (with_reducible refine wpList_boxSw s 3 rfl rfl (.tmp 1) rfl rfl ?_; intro w0 hs0 b0 s0) | ((with_reducible refine (l02Copy_any _ R C f _ (inMat_below HI.out b0) H.out).mono ?_); rintro e w1 ⟨u, rfl, hu, hb1⟩; obtain ⟨g, cap, rfl⟩ := ownMat_some hu (by rw [mkM_len]; omega); rw [mkM_len] at hu ⊢; have hs1 := swAt_below hs0 hb1; have hb2 := b0.trans (hb1.mono b0.size); have hsz1 := hb1.size; obtain ⟨d0, d1, d2, d3⟩ := swAt_cells hs1; rw [HSW.out] at d0 d1 d2 d3))
  obtain ⟨w2, hw2⟩ : ∃ w2, w2 = w1.alloc (.cells #[.int .i64 (a : Int), .int .i64 (b : Int)] 3) := ⟨_, rfl⟩
  obtain ⟨gy, hgy⟩ : ∃ gy, gy = w1.heap.size := ⟨_, rfl⟩
  have hal := (Below.refl w1.heap.size w1).alloc (Nat.le_refl _) (.cells #[.int .i64 (a : Int), .int .i64 (b : Int)] 3)
  have HO := hide (ownMat_below hu hal)
  have HPY : Hid (PairAt (w1.alloc (.cells #[.int .i64 (a : Int), .int .i64 (b : Int)] 3)) w1.heap.size a b) := hide (heap_alloc_new w1 _)
  have HS := hide (swAt_below hs1 hal)
  have HB := hide (hb2.trans (hal.mono hb2.size))
  rw [← hw2, s0, ← hgy, ← HZERO.out] at HO
  rw [← hw2, ← hgy] at HPY
  rw [← hw2] at HS HB
  rw [← hw2, ← hgy]
  have hgyw : w.heap.size + 1 ≤ gy := by rw [hgy]; omega
  clear hw2 hgy hal hu hs1 hb2 hb1 hs0 b0 s0 hsz1 d0 d1 d2 d3
  go_loopw [18] (fun u w' => ∃ i : Nat, i ≤ 2 ∧ u = .int .i64 i ∧ OwnMat w' (w.heap.size + 1) gy (.slice (some ⟨g, 0, none⟩) R cap) (mkM R C (G (2 * i))) ∧ PairAt w' gy a b ∧ SwAt w' w.heap.size s ∧ Below w.heap.size w w') (fun u _ => 2 - (intOf u).toNat)
  case atStart => exact ⟨0, by omega, rfl, HO.out, HPY.out, HS.out, HB.out⟩
  case round =>
    clear HO HPY HS HB
    obtain ⟨i, hi, rfl, ho, hpy, hsw, hbw⟩ := hrel
    have HO := hide ho; have HPY := hide hpy; have HS := hide hsw; have HB := hide hbw
    clear ho hpy hsw hbw
    by_cases hlt : i < 2
    · have hiI : (i : Int) < 2 := by omega
      have hcy := pair_cell HPY.out i hlt
      obtain ⟨d0, d1, d2, d3⟩ := swAt_cells HS.out
      rw [HSW.out] at d0 d1 d2 d3
      have hgy1 := pair_lt HPY.out
      go_wp2
      obtain ⟨w3, hw3⟩ : ∃ w3, w3 = wr.alloc (.cells #[.int .i64 (c : Int), .int .i64 (d : Int)] 3) := ⟨_, rfl⟩
      obtain ⟨gx, hgx⟩ : ∃ gx, gx = wr.heap.size := ⟨_, rfl⟩
      have hal := (Below.refl wr.heap.size wr).alloc (Nat.le_refl _) (.cells #[.int .i64 (c : Int), .int .i64 (d : Int)] 3)
      have HPX : Hid (PairAt (wr.alloc (.cells #[.int .i64 (c : Int), .int .i64 (d : Int)] 3)) wr.heap.size c d) := hide (heap_alloc_new wr _)
      replace HO := hide (ownMat_below HO.out hal); replace HPY := hide (pair_below HPY.out hal); replace HS := hide (swAt_below HS.out hal)
      replace HB := hide (HB.out.trans (hal.mono HB.out.size))
      rw [← hw3, ← hgx] at HPX
      rw [← hw3] at HO HPY HS HB
      rw [← hw3, ← hgx]
      have hgxy : gy < gx := by rw [hgx]; exact hgy1
      clear hw3 hgx hal d0 d1 d2 d3 hcy hgy1
      go_loopw [28] (fun u w' => ∃ j : Nat, j ≤ 2 ∧ u = .int .i64 j ∧ OwnMat w' (w.heap.size + 1) gy (.slice (some ⟨g, 0, none⟩) R cap) (mkM R C (G (2 * i + j))) ∧ PairAt w' gy a b ∧ PairAt w' gx c d ∧ SwAt w' w.heap.size s ∧ Below w.heap.size w w') (fun u _ => 2 - (intOf u).toNat)
      case atStart => exact ⟨0, by omega, rfl, HO.out, HPY.out, HPX.out, HS.out, HB.out⟩
      case round =>
        clear HO HPY HPX HS HB
        obtain ⟨j, hj, rfl, ho, hpy, hpx, hsw, hbw⟩ := hrel
        have HO := hide ho; have HPY := hide hpy; have HPX := hide hpx; have HS := hide hsw; have HB := hide hbw
        clear ho hpy hpx hsw hbw
        by_cases hlj : j < 2
        · have hjI : (j : Int) < 2 := by omega
          have hcx := pair_cell HPX.out j hlj
          have hyR := HPA.out i
          have hxC := HPC.out j
          obtain ⟨g1, k1, q1, hcl, hfr, hg1, hg1h, hset⟩ := ownMat_cell HO.out _ _ hyR hxC
          obtain ⟨g2, o2, k2, q2, hg2, hcc⟩ := HC.out _ hyR
          have q3 := below_cell HB.out hg2 (hcc _ hxC)
          replace q2 := below_cell HB.out hg0 q2
          obtain ⟨z, hz⟩ : ∃ z, z = f (pickN a b i) (pickN c d j) := ⟨_, rfl⟩
          have hz01 : 0 ≤ z ∧ z ≤ 1 := by have := HCELL.out _ _ hyR hxC; omega
          obtain ⟨hz0, hz1⟩ := hz01
          have hwz : IntKind.i64.wrap (1 - z) = 1 - z := IntWalk.i64_in _ (by omega)
          have HST : Hid ((fun y x => if y = pickN a b i ∧ x = pickN c d j then 1 - z else G (2 * i + j) y x) = G (2 * i + (j + 1))) := hide (by
            have := HSTEP.out (2 * i + j)
            rw [show (2 * i + j) / 2 = i by omega, show (2 * i + j) % 2 = j by omega] at this
            rw [← Nat.add_assoc, this]
            funext y x
            by_cases e : y = pickN a b i ∧ x = pickN c d j
            · rw [if_pos e, if_pos e, hz, e.1, e.2]
            · rw [if_neg e, if_neg e])
          rw [← hz] at q3
          have hyI : ((pickN a b i : Nat) : Int) < R := by omega
          have hxI : ((pickN c d j : Nat) : Int) < C := by omega
          obtain ⟨z0, hz0'⟩ : ∃ z0, z0 = G (2 * i + j) (pickN a b i) (pickN c d j) := ⟨_, rfl⟩
          rw [← hz0'] at hcl
          clear hcc hz hz0'
          go_wp2
          obtain ⟨fs, hfs⟩ : ∃ fs : List FactP, fs = [isV (.slice (some ⟨g, 0, none⟩) R cap), isV (.int .i64 ((pickN a b i : Nat) : Int)), isV (.pointer (some ⟨g, pickN a b i, none⟩)), isV (.slice (some ⟨g1, 0, none⟩) C k1), isV (.int .i64 ((pickN c d j : Nat) : Int)), isV (.slice (some ⟨g0, o0, none⟩) R c0), isV (.int .i64 ((pickN a b i : Nat) : Int)), isV (.pointer (some ⟨g0, o0 + pickN a b i, none⟩)), isV (.slice (some ⟨g2, o2, none⟩) C k2), isV (.int .i64 ((pickN c d j : Nat) : Int)), isV (.pointer (some ⟨g2, o2 + pickN c d j, none⟩)), isV (.int .i64 z), isV (.int .i64 (1 - z)), isV (.pointer (some ⟨g1, pickN c d j, none⟩))] := ⟨_, rfl⟩
          have hst : ∀ f ∈ fs, StableP f := by
            rw [hfs]; intro f hf
            simp only [List.mem_cons, List.not_mem_nil, or_false] at hf
            rcases hf with rfl | rfl | rfl | rfl | rfl | rfl | rfl | rfl | rfl | rfl | rfl | rfl | rfl | rfl <;> exact stable_v _
          subst hfs
          refine wp_region_tail (S := fun w2 => w2 = wr.drew) [isV (.slice (some ⟨g, 0, none⟩) R cap), isV (.int .i64 ((pickN a b i : Nat) : Int)), isV (.pointer (some ⟨g, pickN a b i, none⟩)), isV (.slice (some ⟨g1, 0, none⟩) C k1), isV (.int .i64 ((pickN c d j : Nat) : Int)), isV (.slice (some ⟨g0, o0, none⟩) R c0), isV (.int .i64 ((pickN a b i : Nat) : Int)), isV (.pointer (some ⟨g0, o0 + pickN a b i, none⟩)), isV (.slice (some ⟨g2, o2, none⟩) C k2), isV (.int .i64 ((pickN c d j : Nat) : Int)), isV (.pointer (some ⟨g2, o2 + pickN c d j, none⟩)), isV (.int .i64 z), isV (.int .i64 (1 - z)), isV (.pointer (some ⟨g1, pickN c d j, none⟩))] [(0, .slice (some ⟨g0, o0, none⟩) R c0), (5, .slice (some ⟨g, 0, none⟩) R cap), (7, .int .i64 ((pickN a b i : Nat) : Int)), (9, .int .i64 ((pickN c d j : Nat) : Int))] _ _ 14 (by kernel_rfl) rfl rfl (by kernel_rfl) (by kernel_rfl) rfl (by kernel_rfl) ?base rfl ?ob rfl ?fin
          case base =>
            intro t v ht
            simp only [List.lookup_cons, List.lookup_nil] at ht
            repeat' split at ht
            all_goals first | (cases ht; done) | (obtain rfl := Option.some.inj ht; rename_i hh; obtain rfl := eq_of_beq hh; rfl)
          case ob =>
            exact ⟨obt_move (.slice (some ⟨g, 0, none⟩) R cap) rfl rfl rfl (srt_b 5 rfl),
              obt_move (.int .i64 ((pickN a b i : Nat) : Int)) rfl rfl rfl (srt_b 7 rfl),
              obt_two (.pointer (some ⟨g, pickN a b i, none⟩)) rfl rfl (srt_j 0 rfl (by kernel_rfl) rfl) (srt_j 1 rfl (by kernel_rfl) rfl) (fun ρ w2 hS hx hy => by go_simp),
              obt_one (.slice (some ⟨g1, 0, none⟩) C k1) rfl rfl (srt_j 2 rfl (by kernel_rfl) rfl) (fun ρ w2 hS hx => by subst hS; go_simp),
              obt_move (.int .i64 ((pickN c d j : Nat) : Int)) rfl rfl rfl (srt_b 9 rfl),
              obt_move (.slice (some ⟨g0, o0, none⟩) R c0) rfl rfl rfl (srt_b 0 rfl),
              obt_move (.int .i64 ((pickN a b i : Nat) : Int)) rfl rfl rfl (srt_b 7 rfl),
              obt_two (.pointer (some ⟨g0, o0 + pickN a b i, none⟩)) rfl rfl (srt_j 5 rfl (by kernel_rfl) rfl) (srt_j 6 rfl (by kernel_rfl) rfl) (fun ρ w2 hS hx hy => by go_simp),
              obt_one (.slice (some ⟨g2, o2, none⟩) C k2) rfl rfl (srt_j 7 rfl (by kernel_rfl) rfl) (fun ρ w2 hS hx => by subst hS; go_simp),
              obt_move (.int .i64 ((pickN c d j : Nat) : Int)) rfl rfl rfl (srt_b 9 rfl),
              obt_two (.pointer (some ⟨g2, o2 + pickN c d j, none⟩)) rfl rfl (srt_j 8 rfl (by kernel_rfl) rfl) (srt_j 9 rfl (by kernel_rfl) rfl) (fun ρ w2 hS hx hy => by go_simp),
              obt_one (.int .i64 z) rfl rfl (srt_j 10 rfl (by kernel_rfl) rfl) (fun ρ w2 hS hx => by subst hS; go_simp),
              obt_two (.int .i64 (1 - z)) rfl rfl (srt_c (v := .int .i64 1)) (srt_j 11 rfl (by kernel_rfl) rfl) (fun ρ w2 hS hx hy => by go_simp),
              obt_two (.pointer (some ⟨g1, pickN c d j, none⟩)) rfl rfl (srt_j 3 rfl (by kernel_rfl) rfl) (srt_j 4 rfl (by kernel_rfl) rfl) (fun ρ w2 hS hx hy => by go_simp),
              trivial⟩
          case fin =>
            intro a' w' h1 h2 h3 hS h4 K hK
            have ha := frame_ov rfl h1 h2 h3 [(32, .slice (some ⟨g, 0, none⟩) R cap), (33, .int .i64 ((pickN a b i : Nat) : Int)), (34, .pointer (some ⟨g, pickN a b i, none⟩)), (35, .slice (some ⟨g1, 0, none⟩) C k1), (36, .int .i64 ((pickN c d j : Nat) : Int)), (37, .slice (some ⟨g0, o0, none⟩) R c0), (38, .int .i64 ((pickN a b i : Nat) : Int)), (39, .pointer (some ⟨g0, o0 + pickN a b i, none⟩)), (40, .slice (some ⟨g2, o2, none⟩) C k2), (41, .int .i64 ((pickN c d j : Nat) : Int)), (42, .pointer (some ⟨g2, o2 + pickN c d j, none⟩)), (43, .int .i64 z), (44, .int .i64 (1 - z)), (45, .pointer (some ⟨g1, pickN c d j, none⟩))] (by kernel_rfl) ⟨h4 0 32 rfl (by decide), h4 1 33 rfl (by decide), h4 2 34 rfl (by decide), h4 3 35 rfl (by decide), h4 4 36 rfl (by decide), h4 5 37 rfl (by decide), h4 6 38 rfl (by decide), h4 7 39 rfl (by decide), h4 8 40 rfl (by decide), h4 9 41 rfl (by decide), h4 10 42 rfl (by decide), h4 11 43 rfl (by decide), h4 12 44 rfl (by decide), h4 13 45 rfl (by decide), trivial⟩
            dsimp only [ov, List.lookup, Nat.reduceBEq, Nat.reduceAdd] at ha
            have v45 : a'.tmps.getD 45 undef = .pointer (some ⟨g1, pickN c d j, none⟩) := h4 13 45 rfl (by decide)
            have v44 : a'.tmps.getD 44 undef = .int .i64 (1 - z) := h4 12 44 rfl (by decide)
            subst hS
            refine run_skip (exec_storeInt (u := z0) rfl v45 v44 hcl hfr) (hK undef _ ?_)
            show Exit.inBlock _ _ Exit.normal a' _
            have E1 : Hid (OwnMat (wr.drew.setCell ⟨g1, pickN c d j, none⟩ (.int .i64 (1 - z))) (w.heap.size + 1) gy (.slice (some ⟨g, 0, none⟩) R cap) (mkM R C (G (2 * i + (j + 1))))) := hide (by have := hset (1 - z); rw [HST.out] at this; exact this)
            have E2 : Hid (PairAt (wr.drew.setCell ⟨g1, pickN c d j, none⟩ (.int .i64 (1 - z))) gy a b) := hide (pair_set HPY.out _ _ (by simp; omega))
            have E3 : Hid (PairAt (wr.drew.setCell ⟨g1, pickN c d j, none⟩ (.int .i64 (1 - z))) gx c d) := hide (pair_set HPX.out _ _ (by simp; omega))
            have E4 : Hid (SwAt (wr.drew.setCell ⟨g1, pickN c d j, none⟩ (.int .i64 (1 - z))) w.heap.size s) := hide (swAt_set (swAt_below HS.out (below_drew (Below.refl _ _))) _ _ (by simp; omega))
            have E5 : Hid (Below w.heap.size w (wr.drew.setCell ⟨g1, pickN c d j, none⟩ (.int .i64 (1 - z)))) := hide ((below_drew HB.out).setCell (by simp only; omega) _)
            clear v44 v45
            generalize wr.drew.setCell ⟨g1, pickN c d j, none⟩ (.int .i64 (1 - z)) = w9 at E1 E2 E3 E4 E5 ⊢
            rw [ha]
            clear ha h1 h2 h3 h4 hst hK
            go_wp2
            go_roundw
            case rel => exact ⟨j + 1, by omega, by go_num, E1.out, E2.out, E3.out, E4.out, E5.out⟩
            case measure => simp [intOf]; omega
        · obtain rfl : j = 2 := by omega
          go_wp2
          go_roundw
          case rel => exact ⟨i + 1, by omega, by go_num, HO.out, HPY.out, HS.out, HB.out⟩
          case measure => simp [intOf]; omega
    · obtain rfl : i = 2 := by omega
      go_wp2
      go_ret
      exact ⟨_, rfl, ownMat_mono HO.out (Nat.le_succ _) (Nat.le_of_lt (pair_lt HPY.out)), HB.out⟩
theorem specApply_img (v : Value) (R C : Nat) (f : Nat → Nat → Int) (s : Sw) (w : World) (hin : InMat w v (mkM R C f)) (hI : Img R C f) (hs : swF R C f s = true) :
    Calls Try.prog 73 #[v, swV s] w (MatRes (mkM R C (flipF f s)) w) := by
  obtain ⟨a, b, c, d, rfl, h⟩ := swF_iff.1 hs
  obtain ⟨h1, h2, h3, h4, -⟩ := four_iff.1 h
  exact l06Apply_any v R C f a b c d w hin hI (by omega) h3 (by omega) h4
end Go.Proofs.Ytnhijmhambggbaa
