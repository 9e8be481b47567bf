/-
  Texts of this claim, one behind the other: Apl, SwS, SwsS, SwE, VisA, Visit, PathL.
-/
import Derived.Test.YtcliiefedmiokaaGreatPackT
import Derived.Test.YtcliiefedmiokaaGreatPackS
import Derived.Test.YtcliiefedmiokaaGreatPackM
import Derived.Test.YtcliiefedmiokaaGreatPackH
import Derived.Test.YtcliiefedmiokaaGreatPackD
import Derived.Laws.OwnMore
import Derived.Great.BuildSlice
import Derived.WalkMore
import Derived.Deep.LoopGhost
/-
  l06Apply of the model: an image after one of its switches.
-/
namespace Go.Proofs.YtcliiefedmiokaaGreat
open Go.RowKit

/-- The cells after the first n of the four. -/
def stepM (f : Nat → Nat → Int) (a b c d : Nat) : Nat → Nat → Nat → Int
  | 0 => f
  | n + 1 => fun y x => if y = pickN a b (n / 2) ∧ x = pickN c d (n % 2) then 1 - f y x else stepM f a b c d n y x
theorem stepM_all (f : Nat → Nat → Int) (a b c d : Nat) : stepM f a b c d 4 = flipN f a b c d := by
  have e : stepM f a b c d 4 = fun y x => if y = b ∧ x = d then 1 - f y x else if y = b ∧ x = c then 1 - f y x else if y = a ∧ x = d then 1 - f y x else if y = a ∧ x = c then 1 - f y x else f y x := rfl
  rw [e]
  funext y x
  unfold flipN
  by_cases h1 : y = a <;> by_cases h2 : y = b <;> by_cases h3 : x = c <;> by_cases h4 : x = d <;> simp [h1, h2, h3, h4]
theorem stepM_cell {R C : Nat} {f : Nat → Nat → Int} (h : Img R C f) (a b c d : Nat) : ∀ n, Img R C (stepM f a b c d n)
  | 0 => h
  | n + 1 => ⟨h.r1, h.r2, h.c1, h.c2, fun y x hy hx => by
    have := h.cell y x hy hx
    have := (stepM_cell h a b c d n).cell y x hy hx
    unfold stepM
    split <;> omega⟩

/-- Two integers in a block. -/
def PairAt (w : World) (g a b : Nat) : Prop := w.heap[g]? = some (.cells #[.int .i64 (a : Int), .int .i64 (b : Int)] 3 (0, 0))
theorem pair_lt {w : World} {g a b : Nat} (h : PairAt w g a b) : g < w.heap.size := (Array.getElem?_eq_some_iff.1 h).1
theorem pair_below {w w' : World} {g a b : Nat} (h : PairAt w g a b) (hb : Below w.heap.size w w') : PairAt w' g a b := by
  unfold PairAt; rw [hb.block g (pair_lt h)]; exact h
theorem pair_set {w : World} {g a b : Nat} (h : PairAt w g a b) (p : Addr) (v : Value) (hne : g ≠ p.block) : PairAt (w.setCell p v) g a b := by
  unfold PairAt; rw [heap_setCell_other w p g v hne]; exact h
theorem pair_cell {w : World} {g a b : Nat} (h : PairAt w g a b) (i : Nat) (hi : i < 2) : w.cell? ⟨g, i, none⟩ = some (.int .i64 ((pickN a b i : Nat) : Int)) := by
  rw [cell_of_row w g i _ _ _ h]
  have : i = 0 ∨ i = 1 := by omega
  rcases this with rfl | rfl <;> rfl
set_option maxRecDepth 100000 in
set_option maxHeartbeats 4000000 in
theorem l06Apply_any (v : Value) (R C : Nat) (f : Nat → Nat → Int) (a b c d : Nat) (w : World) (hin : InMat w v (mkM R C f)) (hI : Img R C f) (ha : a < R) (hb : b < R) (hc : c < C) (hd : d < C) :
    Calls Tryz.prog 64 #[v, swV ⟨a, b, c, d⟩] w (MatRes (mkM R C (flipN f a b c d)) w) := by
  rw [← stepM_all]
  have hR := hI.r2; have hC := hI.c2; have hR1 := hI.r1; have hC1 := hI.c1
  have HPA : Hid (∀ i, pickN a b i < R) := hide fun i => by unfold pickN; split <;> omega
  have HPC : Hid (∀ i, pickN c d i < C) := hide fun i => by unfold pickN; split <;> omega
  have HSTEP : Hid (∀ n, stepM f a b c d (n + 1) = fun y x => if y = pickN a b (n / 2) ∧ x = pickN c d (n % 2) then 1 - f y x else stepM f a b c d n y x) := hide fun _ => rfl
  have HZERO : Hid (stepM f a b c d 0 = f) := hide rfl
  obtain ⟨G, hG⟩ : ∃ G, G = stepM f a b c d := ⟨_, rfl⟩
  rw [← hG] at HSTEP HZERO ⊢
  clear hG
  have HI := hide hin; have H := hide hI
  have HCELL := hide hI.cell
  obtain ⟨g0, o0, c0, rfl, hg0, hcell⟩ := inMat_img hin (by omega) (by omega)
  have HC := hide hcell
  obtain ⟨s, hs⟩ : ∃ s : Sw, s = ⟨a, b, c, d⟩ := ⟨_, rfl⟩
  have HSW := hide hs
  rw [← hs]
  clear hs hin hI hcell
  go_enter Tryz.func64, Tryz.ntmps64
  go_wp2_with (first | (with_reducible refine wpList_boxSw s 3 rfl rfl (.tmp 1) rfl rfl ?_; intro w0 hs0 b0 s0) | ((with_reducible refine (l02Copy_any _ R C f _ (inMat_below HI.out b0) H.out).mono ?_); rintro e w1 ⟨u, rfl, hu, hb1⟩; obtain ⟨g, cap, rfl⟩ := ownMat_some hu (by rw [mkM_len]; omega); rw [mkM_len] at hu ⊢; have hs1 := swAt_below hs0 hb1; have hb2 := b0.trans (hb1.mono b0.size); have hsz1 := hb1.size; obtain ⟨d0, d1, d2, d3⟩ := swAt_cells hs1; rw [HSW.out] at d0 d1 d2 d3))
  obtain ⟨w2, hw2⟩ : ∃ w2, w2 = w1.alloc (.cells #[.int .i64 (a : Int), .int .i64 (b : Int)] 3) := ⟨_, rfl⟩
  obtain ⟨gy, hgy⟩ : ∃ gy, gy = w1.heap.size := ⟨_, rfl⟩
  have hal := (Below.refl w1.heap.size w1).alloc (Nat.le_refl _) (.cells #[.int .i64 (a : Int), .int .i64 (b : Int)] 3)
  have HO := hide (ownMat_below hu hal)
  have HPY : Hid (PairAt (w1.alloc (.cells #[.int .i64 (a : Int), .int .i64 (b : Int)] 3)) w1.heap.size a b) := hide (heap_alloc_new w1 _)
  have HS := hide (swAt_below hs1 hal)
  have HB := hide (hb2.trans (hal.mono hb2.size))
  rw [← hw2, s0, ← hgy, ← HZERO.out] at HO
  rw [← hw2, ← hgy] at HPY
  rw [← hw2] at HS HB
  rw [← hw2, ← hgy]
  have hgyw : w.heap.size + 1 ≤ gy := by rw [hgy]; omega
  clear hw2 hgy hal hu hs1 hb2 hb1 hs0 b0 s0 hsz1 d0 d1 d2 d3
  go_loopw [18] (fun u w' => ∃ i : Nat, i ≤ 2 ∧ u = .int .i64 i ∧ OwnMat w' (w.heap.size + 1) gy (.slice (some ⟨g, 0, none⟩) R cap) (mkM R C (G (2 * i))) ∧ PairAt w' gy a b ∧ SwAt w' w.heap.size s ∧ Below w.heap.size w w') (fun u _ => 2 - (intOf u).toNat)
  case atStart => exact ⟨0, by omega, rfl, HO.out, HPY.out, HS.out, HB.out⟩
  case round =>
    clear HO HPY HS HB
    obtain ⟨i, hi, rfl, ho, hpy, hsw, hbw⟩ := hrel
    have HO := hide ho; have HPY := hide hpy; have HS := hide hsw; have HB := hide hbw
    clear ho hpy hsw hbw
    by_cases hlt : i < 2
    · have hiI : (i : Int) < 2 := by omega
      have hcy := pair_cell HPY.out i hlt
      obtain ⟨d0, d1, d2, d3⟩ := swAt_cells HS.out
      rw [HSW.out] at d0 d1 d2 d3
      have hgy1 := pair_lt HPY.out
      go_wp2
      obtain ⟨w3, hw3⟩ : ∃ w3, w3 = wr.alloc (.cells #[.int .i64 (c : Int), .int .i64 (d : Int)] 3) := ⟨_, rfl⟩
      obtain ⟨gx, hgx⟩ : ∃ gx, gx = wr.heap.size := ⟨_, rfl⟩
      have hal := (Below.refl wr.heap.size wr).alloc (Nat.le_refl _) (.cells #[.int .i64 (c : Int), .int .i64 (d : Int)] 3)
      have HPX : Hid (PairAt (wr.alloc (.cells #[.int .i64 (c : Int), .int .i64 (d : Int)] 3)) wr.heap.size c d) := hide (heap_alloc_new wr _)
      replace HO := hide (ownMat_below HO.out hal); replace HPY := hide (pair_below HPY.out hal); replace HS := hide (swAt_below HS.out hal)
      replace HB := hide (HB.out.trans (hal.mono HB.out.size))
      rw [← hw3, ← hgx] at HPX
      rw [← hw3] at HO HPY HS HB
      rw [← hw3, ← hgx]
      have hgxy : gy < gx := by rw [hgx]; exact hgy1
      clear hw3 hgx hal d0 d1 d2 d3 hcy hgy1
      go_loopw [28] (fun u w' => ∃ j : Nat, j ≤ 2 ∧ u = .int .i64 j ∧ OwnMat w' (w.heap.size + 1) gy (.slice (some ⟨g, 0, none⟩) R cap) (mkM R C (G (2 * i + j))) ∧ PairAt w' gy a b ∧ PairAt w' gx c d ∧ SwAt w' w.heap.size s ∧ Below w.heap.size w w') (fun u _ => 2 - (intOf u).toNat)
      case atStart => exact ⟨0, by omega, rfl, HO.out, HPY.out, HPX.out, HS.out, HB.out⟩
      case round =>
        clear HO HPY HPX HS HB
        obtain ⟨j, hj, rfl, ho, hpy, hpx, hsw, hbw⟩ := hrel
        have HO := hide ho; have HPY := hide hpy; have HPX := hide hpx; have HS := hide hsw; have HB := hide hbw
        clear ho hpy hpx hsw hbw
        by_cases hlj : j < 2
        · have hjI : (j : Int) < 2 := by omega
          have hcx := pair_cell HPX.out j hlj
          have hyR := HPA.out i
          have hxC := HPC.out j
          obtain ⟨g1, k1, q1, hcl, hfr, hg1, hg1h, hset⟩ := ownMat_cell HO.out _ _ hyR hxC
          obtain ⟨g2, o2, k2, q2, hg2, hcc⟩ := HC.out _ hyR
          have q3 := below_cell HB.out hg2 (hcc _ hxC)
          replace q2 := below_cell HB.out hg0 q2
          obtain ⟨z, hz⟩ : ∃ z, z = f (pickN a b i) (pickN c d j) := ⟨_, rfl⟩
          have hz01 : 0 ≤ z ∧ z ≤ 1 := by have := HCELL.out _ _ hyR hxC; omega
          obtain ⟨hz0, hz1⟩ := hz01
          have hwz : IntKind.i64.wrap (1 - z) = 1 - z := IntWalk.i64_in _ (by omega)
          have HST : Hid ((fun y x => if y = pickN a b i ∧ x = pickN c d j then 1 - z else G (2 * i + j) y x) = G (2 * i + (j + 1))) := hide (by
            have := HSTEP.out (2 * i + j)
            rw [show (2 * i + j) / 2 = i by omega, show (2 * i + j) % 2 = j by omega] at this
            rw [← Nat.add_assoc, this]
            funext y x
            by_cases e : y = pickN a b i ∧ x = pickN c d j
            · rw [if_pos e, if_pos e, hz, e.1, e.2]
            · rw [if_neg e, if_neg e])
          rw [← hz] at q3
          have hyI : ((pickN a b i : Nat) : Int) < R := by omega
          have hxI : ((pickN c d j : Nat) : Int) < C := by omega
          obtain ⟨z0, hz0'⟩ : ∃ z0, z0 = G (2 * i + j) (pickN a b i) (pickN c d j) := ⟨_, rfl⟩
          rw [← hz0'] at hcl
          clear hcc hz hz0'
          go_wp2
          obtain ⟨fs, hfs⟩ : ∃ fs : List FactP, fs = [isV (.slice (some ⟨g, 0, none⟩) R cap), isV (.int .i64 ((pickN a b i : Nat) : Int)), isV (.pointer (some ⟨g, pickN a b i, none⟩)), isV (.slice (some ⟨g1, 0, none⟩) C k1), isV (.int .i64 ((pickN c d j : Nat) : Int)), isV (.slice (some ⟨g0, o0, none⟩) R c0), isV (.int .i64 ((pickN a b i : Nat) : Int)), isV (.pointer (some ⟨g0, o0 + pickN a b i, none⟩)), isV (.slice (some ⟨g2, o2, none⟩) C k2), isV (.int .i64 ((pickN c d j : Nat) : Int)), isV (.pointer (some ⟨g2, o2 + pickN c d j, none⟩)), isV (.int .i64 z), isV (.int .i64 (1 - z)), isV (.pointer (some ⟨g1, pickN c d j, none⟩))] := ⟨_, rfl⟩
          have hst : ∀ f ∈ fs, StableP f := by
            rw [hfs]; intro f hf
            simp only [List.mem_cons, List.not_mem_nil, or_false] at hf
            rcases hf with rfl | rfl | rfl | rfl | rfl | rfl | rfl | rfl | rfl | rfl | rfl | rfl | rfl | rfl <;> exact stable_v _
          subst hfs
          refine wp_region_tail (S := fun w2 => w2 = wr.drew) [isV (.slice (some ⟨g, 0, none⟩) R cap), isV (.int .i64 ((pickN a b i : Nat) : Int)), isV (.pointer (some ⟨g, pickN a b i, none⟩)), isV (.slice (some ⟨g1, 0, none⟩) C k1), isV (.int .i64 ((pickN c d j : Nat) : Int)), isV (.slice (some ⟨g0, o0, none⟩) R c0), isV (.int .i64 ((pickN a b i : Nat) : Int)), isV (.pointer (some ⟨g0, o0 + pickN a b i, none⟩)), isV (.slice (some ⟨g2, o2, none⟩) C k2), isV (.int .i64 ((pickN c d j : Nat) : Int)), isV (.pointer (some ⟨g2, o2 + pickN c d j, none⟩)), isV (.int .i64 z), isV (.int .i64 (1 - z)), isV (.pointer (some ⟨g1, pickN c d j, none⟩))] [(0, .slice (some ⟨g0, o0, none⟩) R c0), (5, .slice (some ⟨g, 0, none⟩) R cap), (7, .int .i64 ((pickN a b i : Nat) : Int)), (9, .int .i64 ((pickN c d j : Nat) : Int))] _ _ 14 (by kernel_rfl) rfl rfl (by kernel_rfl) (by kernel_rfl) rfl (by kernel_rfl) ?base rfl ?ob rfl ?fin
          case base =>
            intro t v ht
            simp only [List.lookup_cons, List.lookup_nil] at ht
            repeat' split at ht
            all_goals first | (cases ht; done) | (obtain rfl := Option.some.inj ht; rename_i hh; obtain rfl := eq_of_beq hh; rfl)
          case ob =>
            exact ⟨obt_move (.slice (some ⟨g, 0, none⟩) R cap) rfl rfl rfl (srt_b 5 rfl),
              obt_move (.int .i64 ((pickN a b i : Nat) : Int)) rfl rfl rfl (srt_b 7 rfl),
              obt_two (.pointer (some ⟨g, pickN a b i, none⟩)) rfl rfl (srt_j 0 rfl (by kernel_rfl) rfl) (srt_j 1 rfl (by kernel_rfl) rfl) (fun ρ w2 hS hx hy => by go_simp),
              obt_one (.slice (some ⟨g1, 0, none⟩) C k1) rfl rfl (srt_j 2 rfl (by kernel_rfl) rfl) (fun ρ w2 hS hx => by subst hS; go_simp),
              obt_move (.int .i64 ((pickN c d j : Nat) : Int)) rfl rfl rfl (srt_b 9 rfl),
              obt_move (.slice (some ⟨g0, o0, none⟩) R c0) rfl rfl rfl (srt_b 0 rfl),
              obt_move (.int .i64 ((pickN a b i : Nat) : Int)) rfl rfl rfl (srt_b 7 rfl),
              obt_two (.pointer (some ⟨g0, o0 + pickN a b i, none⟩)) rfl rfl (srt_j 5 rfl (by kernel_rfl) rfl) (srt_j 6 rfl (by kernel_rfl) rfl) (fun ρ w2 hS hx hy => by go_simp),
              obt_one (.slice (some ⟨g2, o2, none⟩) C k2) rfl rfl (srt_j 7 rfl (by kernel_rfl) rfl) (fun ρ w2 hS hx => by subst hS; go_simp),
              obt_move (.int .i64 ((pickN c d j : Nat) : Int)) rfl rfl rfl (srt_b 9 rfl),
              obt_two (.pointer (some ⟨g2, o2 + pickN c d j, none⟩)) rfl rfl (srt_j 8 rfl (by kernel_rfl) rfl) (srt_j 9 rfl (by kernel_rfl) rfl) (fun ρ w2 hS hx hy => by go_simp),
              obt_one (.int .i64 z) rfl rfl (srt_j 10 rfl (by kernel_rfl) rfl) (fun ρ w2 hS hx => by subst hS; go_simp),
              obt_two (.int .i64 (1 - z)) rfl rfl (srt_c (v := .int .i64 1)) (srt_j 11 rfl (by kernel_rfl) rfl) (fun ρ w2 hS hx hy => by go_simp),
              obt_two (.pointer (some ⟨g1, pickN c d j, none⟩)) rfl rfl (srt_j 3 rfl (by kernel_rfl) rfl) (srt_j 4 rfl (by kernel_rfl) rfl) (fun ρ w2 hS hx hy => by go_simp),
              trivial⟩
          case fin =>
            intro a' w' h1 h2 h3 hS h4 K hK
            have ha := frame_ov rfl h1 h2 h3 [(32, .slice (some ⟨g, 0, none⟩) R cap), (33, .int .i64 ((pickN a b i : Nat) : Int)), (34, .pointer (some ⟨g, pickN a b i, none⟩)), (35, .slice (some ⟨g1, 0, none⟩) C k1), (36, .int .i64 ((pickN c d j : Nat) : Int)), (37, .slice (some ⟨g0, o0, none⟩) R c0), (38, .int .i64 ((pickN a b i : Nat) : Int)), (39, .pointer (some ⟨g0, o0 + pickN a b i, none⟩)), (40, .slice (some ⟨g2, o2, none⟩) C k2), (41, .int .i64 ((pickN c d j : Nat) : Int)), (42, .pointer (some ⟨g2, o2 + pickN c d j, none⟩)), (43, .int .i64 z), (44, .int .i64 (1 - z)), (45, .pointer (some ⟨g1, pickN c d j, none⟩))] (by kernel_rfl) ⟨h4 0 32 rfl (by decide), h4 1 33 rfl (by decide), h4 2 34 rfl (by decide), h4 3 35 rfl (by decide), h4 4 36 rfl (by decide), h4 5 37 rfl (by decide), h4 6 38 rfl (by decide), h4 7 39 rfl (by decide), h4 8 40 rfl (by decide), h4 9 41 rfl (by decide), h4 10 42 rfl (by decide), h4 11 43 rfl (by decide), h4 12 44 rfl (by decide), h4 13 45 rfl (by decide), trivial⟩
            dsimp only [ov, List.lookup, Nat.reduceBEq, Nat.reduceAdd] at ha
            have v45 : a'.tmps.getD 45 undef = .pointer (some ⟨g1, pickN c d j, none⟩) := h4 13 45 rfl (by decide)
            have v44 : a'.tmps.getD 44 undef = .int .i64 (1 - z) := h4 12 44 rfl (by decide)
            subst hS
            refine run_skip (exec_storeInt (u := z0) rfl v45 v44 hcl hfr) (hK undef _ ?_)
            show Exit.inBlock _ _ Exit.normal a' _
            have E1 : Hid (OwnMat (wr.drew.setCell ⟨g1, pickN c d j, none⟩ (.int .i64 (1 - z))) (w.heap.size + 1) gy (.slice (some ⟨g, 0, none⟩) R cap) (mkM R C (G (2 * i + (j + 1))))) := hide (by have := hset (1 - z); rw [HST.out] at this; exact this)
            have E2 : Hid (PairAt (wr.drew.setCell ⟨g1, pickN c d j, none⟩ (.int .i64 (1 - z))) gy a b) := hide (pair_set HPY.out _ _ (by simp; omega))
            have E3 : Hid (PairAt (wr.drew.setCell ⟨g1, pickN c d j, none⟩ (.int .i64 (1 - z))) gx c d) := hide (pair_set HPX.out _ _ (by simp; omega))
            have E4 : Hid (SwAt (wr.drew.setCell ⟨g1, pickN c d j, none⟩ (.int .i64 (1 - z))) w.heap.size s) := hide (swAt_set (swAt_below HS.out (below_drew (Below.refl _ _))) _ _ (by simp; omega))
            have E5 : Hid (Below w.heap.size w (wr.drew.setCell ⟨g1, pickN c d j, none⟩ (.int .i64 (1 - z)))) := hide ((below_drew HB.out).setCell (by simp only; omega) _)
            clear v44 v45
            generalize wr.drew.setCell ⟨g1, pickN c d j, none⟩ (.int .i64 (1 - z)) = w9 at E1 E2 E3 E4 E5 ⊢
            rw [ha]
            clear ha h1 h2 h3 h4 hst hK
            go_wp2
            go_roundw
            case rel => exact ⟨j + 1, by omega, by go_num, E1.out, E2.out, E3.out, E4.out, E5.out⟩
            case measure => simp [intOf]; omega
        · obtain rfl : j = 2 := by omega
          go_wp2
          go_roundw
          case rel => exact ⟨i + 1, by omega, by go_num, HO.out, HPY.out, HS.out, HB.out⟩
          case measure => simp [intOf]; omega
    · obtain rfl : i = 2 := by omega
      go_wp2
      go_ret
      exact ⟨_, rfl, ownMat_mono HO.out (Nat.le_succ _) (Nat.le_of_lt (pair_lt HPY.out)), HB.out⟩
theorem specApply_img (v : Value) (R C : Nat) (f : Nat → Nat → Int) (s : Sw) (w : World) (hin : InMat w v (mkM R C f)) (hI : Img R C f) (hs : swF R C f s = true) :
    Calls Tryz.prog 64 #[v, swV s] w (MatRes (mkM R C (flipF f s)) w) := by
  obtain ⟨a, b, c, d, rfl, h⟩ := swF_iff.1 hs
  obtain ⟨h1, h2, h3, h4, -⟩ := four_iff.1 h
  exact l06Apply_any v R C f a b c d w hin hI (by omega) h3 (by omega) h4
end Go.Proofs.YtcliiefedmiokaaGreat
/-
  SwitchOk of the model.
-/
namespace Go.Proofs.YtcliiefedmiokaaGreat
open Go.RowKit

set_option maxHeartbeats 400000 in
theorem specSwitchOk_no (v : Value) (m : List (List Int)) (s : Sw) (w : World) (hin : InMat w v m) (h : okB m = false) :
    Calls Tryz.prog 109 #[v, swV s] w fun e w' => e = .returned (.bool false) ∧ Below w.heap.size w w' := by
  have HI := hide hin; have H := hide h
  clear hin h
  go_enter Tryz.func109, Tryz.ntmps109
  go_wp2_with (first | (with_reducible refine wpList_boxSw s 3 rfl rfl (.tmp 1) rfl rfl ?_; intro w2 h2 b2 s2; clear s2; obtain ⟨c0, c1, c2, c3⟩ := swAt_cells h2) | ((with_reducible refine (l02In_no v m s.y1 s.x1 _ (inMat_below HI.out b2) H.out).mono ?_); rintro e w' ⟨rfl, rfl⟩))
  go_ret
  exact ⟨rfl, b2⟩
theorem swF_no {R C : Nat} {f : Nat → Nat → Int} {s : Sw} (h : ¬ ((0 ≤ s.y1 ∧ s.y1 < R ∧ 0 ≤ s.x1 ∧ s.x1 < C) ∧ (0 ≤ s.y2 ∧ s.y2 < R ∧ 0 ≤ s.x2 ∧ s.x2 < C) ∧ s.y1 < s.y2 ∧ s.x1 < s.x2)) : swF R C f s = false := by
  rw [Bool.eq_false_iff]
  intro e
  obtain ⟨a, b, c, d, rfl, hf⟩ := swF_iff.1 e
  obtain ⟨h1, h2, h3, h4, -⟩ := four_iff.1 hf
  exact h (by simp only; omega)
set_option maxHeartbeats 400000 in
theorem specSwitchOk_one (v : Value) (R C : Nat) (f : Nat → Nat → Int) (s : Sw) (w : World) (hin : InMat w v (mkM R C f)) (hI : Img R C f) (h1 : ¬ (0 ≤ s.y1 ∧ s.y1 < R ∧ 0 ≤ s.x1 ∧ s.x1 < C)) :
    Calls Tryz.prog 109 #[v, swV s] w fun e w' => e = .returned (.bool (swF R C f s)) ∧ Below w.heap.size w w' := by
  have HI := hide hin; have H := hide hI
  have H1 := hide (show false = true ↔ _ from ⟨fun e => (by cases e), fun e => absurd e h1⟩)
  have HF := hide (swF_no (R := R) (C := C) (f := f) fun e => h1 e.1)
  clear h1
  clear hin hI
  go_enter Tryz.func109, Tryz.ntmps109
  go_wp2_with (first | (with_reducible refine wpList_boxSw s 3 rfl rfl (.tmp 1) rfl rfl ?_; intro w2 h2 b2 s2; clear s2; obtain ⟨c0, c1, c2, c3⟩ := swAt_cells h2) | ((with_reducible refine (l02In_img v R C f s.y1 s.x1 _ (inMat_below HI.out b2) H.out false H1.out).mono ?_); rintro e w' ⟨rfl, rfl⟩))
  go_ret
  exact ⟨ret_bool HF.out.symm, b2⟩
set_option maxHeartbeats 400000 in
theorem specSwitchOk_two (v : Value) (R C : Nat) (f : Nat → Nat → Int) (s : Sw) (w : World) (hin : InMat w v (mkM R C f)) (hI : Img R C f) (h1 : 0 ≤ s.y1 ∧ s.y1 < R ∧ 0 ≤ s.x1 ∧ s.x1 < C) (h2 : ¬ (0 ≤ s.y2 ∧ s.y2 < R ∧ 0 ≤ s.x2 ∧ s.x2 < C)) :
    Calls Tryz.prog 109 #[v, swV s] w fun e w' => e = .returned (.bool (swF R C f s)) ∧ Below w.heap.size w w' := by
  have HI := hide hin; have H := hide hI
  have H1 := hide h1
  have H2 := hide (show false = true ↔ _ from ⟨fun e => (by cases e), fun e => absurd e h2⟩)
  have HF := hide (swF_no (R := R) (C := C) (f := f) fun e => h2 e.2.1)
  clear h1 h2
  clear hin hI
  go_enter Tryz.func109, Tryz.ntmps109
  go_wp2_with (first | (with_reducible refine wpList_boxSw s 3 rfl rfl (.tmp 1) rfl rfl ?_; intro w2 h2 b2 s2; clear s2; obtain ⟨c0, c1, c2, c3⟩ := swAt_cells h2) | ((with_reducible refine (l02In_img v R C f s.y1 s.x1 _ (inMat_below HI.out b2) H.out true ⟨fun _ => H1.out, fun _ => rfl⟩).mono ?_); rintro e w' ⟨rfl, rfl⟩) | ((with_reducible refine (l02In_img v R C f s.y2 s.x2 _ (inMat_below HI.out b2) H.out false H2.out).mono ?_); rintro e w' ⟨rfl, rfl⟩))
  go_ret
  exact ⟨ret_bool HF.out.symm, b2⟩
set_option maxHeartbeats 400000 in
theorem specSwitchOk_three (v : Value) (R C : Nat) (f : Nat → Nat → Int) (s : Sw) (w : World) (hin : InMat w v (mkM R C f)) (hI : Img R C f) (h1 : 0 ≤ s.y1 ∧ s.y1 < R ∧ 0 ≤ s.x1 ∧ s.x1 < C) (h2 : 0 ≤ s.y2 ∧ s.y2 < R ∧ 0 ≤ s.x2 ∧ s.x2 < C) (h3 : ¬ s.y1 < s.y2) :
    Calls Tryz.prog 109 #[v, swV s] w fun e w' => e = .returned (.bool (swF R C f s)) ∧ Below w.heap.size w w' := by
  have HI := hide hin; have H := hide hI
  have H1 := hide h1
  have H2 := hide h2
  have HF := hide (swF_no (R := R) (C := C) (f := f) fun e => h3 e.2.2.1)
  clear h1 h2
  clear hin hI
  go_enter Tryz.func109, Tryz.ntmps109
  go_wp2_with (first | (with_reducible refine wpList_boxSw s 3 rfl rfl (.tmp 1) rfl rfl ?_; intro w2 h2 b2 s2; clear s2; obtain ⟨c0, c1, c2, c3⟩ := swAt_cells h2) | ((with_reducible refine (l02In_img v R C f s.y1 s.x1 _ (inMat_below HI.out b2) H.out true ⟨fun _ => H1.out, fun _ => rfl⟩).mono ?_); rintro e w' ⟨rfl, rfl⟩) | ((with_reducible refine (l02In_img v R C f s.y2 s.x2 _ (inMat_below HI.out b2) H.out true ⟨fun _ => H2.out, fun _ => rfl⟩).mono ?_); rintro e w' ⟨rfl, rfl⟩))
  all_goals first
    | (exfalso; omega)
    | (go_ret; exact ⟨ret_bool HF.out.symm, b2⟩)
set_option maxHeartbeats 400000 in
theorem specSwitchOk_four (v : Value) (R C : Nat) (f : Nat → Nat → Int) (s : Sw) (w : World) (hin : InMat w v (mkM R C f)) (hI : Img R C f) (h1 : 0 ≤ s.y1 ∧ s.y1 < R ∧ 0 ≤ s.x1 ∧ s.x1 < C) (h2 : 0 ≤ s.y2 ∧ s.y2 < R ∧ 0 ≤ s.x2 ∧ s.x2 < C) (h3 : s.y1 < s.y2) (h4 : ¬ s.x1 < s.x2) :
    Calls Tryz.prog 109 #[v, swV s] w fun e w' => e = .returned (.bool (swF R C f s)) ∧ Below w.heap.size w w' := by
  have HI := hide hin; have H := hide hI
  have H1 := hide h1
  have H2 := hide h2
  have HF := hide (swF_no (R := R) (C := C) (f := f) fun e => h4 e.2.2.2)
  clear h1 h2
  clear hin hI
  go_enter Tryz.func109, Tryz.ntmps109
  go_wp2_with (first | (with_reducible refine wpList_boxSw s 3 rfl rfl (.tmp 1) rfl rfl ?_; intro w2 h2 b2 s2; clear s2; obtain ⟨c0, c1, c2, c3⟩ := swAt_cells h2) | ((with_reducible refine (l02In_img v R C f s.y1 s.x1 _ (inMat_below HI.out b2) H.out true ⟨fun _ => H1.out, fun _ => rfl⟩).mono ?_); rintro e w' ⟨rfl, rfl⟩) | ((with_reducible refine (l02In_img v R C f s.y2 s.x2 _ (inMat_below HI.out b2) H.out true ⟨fun _ => H2.out, fun _ => rfl⟩).mono ?_); rintro e w' ⟨rfl, rfl⟩))
  all_goals first
    | (exfalso; omega)
    | (go_ret; exact ⟨ret_bool HF.out.symm, b2⟩)
set_option maxHeartbeats 2000000 in
theorem specSwitchOk_five (v : Value) (R C : Nat) (f : Nat → Nat → Int) (a b c d : Nat) (w : World) (hin : InMat w v (mkM R C f)) (hI : Img R C f) (hab : a < b) (hcd : c < d) (hb : b < R) (hd : d < C) :
    Calls Tryz.prog 109 #[v, swV ⟨a, b, c, d⟩] w fun e w' => e = .returned (.bool (swF R C f ⟨a, b, c, d⟩)) ∧ Below w.heap.size w w' := by
  have HI := hide hin; have H := hide hI
  have H1 := hide (show 0 ≤ (a : Int) ∧ (a : Int) < R ∧ 0 ≤ (c : Int) ∧ (c : Int) < C by omega)
  have H2 := hide (show 0 ≤ (b : Int) ∧ (b : Int) < R ∧ 0 ≤ (d : Int) ∧ (d : Int) < C by omega)
  have hfa := hI.cell a c (by omega) (by omega)
  have HF : Hid (swF R C f ⟨a, b, c, d⟩ = (decide (f b d = f a c) && decide (f a d = 1 - f a c) && decide (f b c = 1 - f a c))) := hide (by
    unfold swF four
    simp only [Int.toNat_natCast]
    rw [decide_eq_true hab, decide_eq_true hcd, decide_eq_true hb, decide_eq_true hd, decide_eq_true (show (0 : Int) ≤ a by omega), decide_eq_true (show (0 : Int) ≤ c by omega), decide_eq_true (show (a : Int) < b by omega), decide_eq_true (show (c : Int) < d by omega)]
    simp only [Bool.true_and])
  rw [HF.out]
  obtain ⟨g, o, cap, rfl, hg, hcell⟩ := inMat_img hin (by omega) (by omega)
  obtain ⟨g1, o1, k1, hx1, hg1, hc1⟩ := hcell a (by omega)
  obtain ⟨g2, o2, k2, hx2, hg2, hc2⟩ := hcell b (by omega)
  have r1 := hc1 c (by omega); have r2 := hc1 d (by omega); have r3 := hc2 c (by omega); have r4 := hc2 d (by omega)
  obtain ⟨A, hA⟩ : ∃ A, A = f a c := ⟨_, rfl⟩
  obtain ⟨B, hB⟩ : ∃ B, B = f a d := ⟨_, rfl⟩
  obtain ⟨E, hE⟩ : ∃ E, E = f b c := ⟨_, rfl⟩
  obtain ⟨D, hD⟩ : ∃ D, D = f b d := ⟨_, rfl⟩
  rw [← hA] at r1 hfa ⊢; rw [← hB] at r2 ⊢; rw [← hE] at r3 ⊢; rw [← hD] at r4 ⊢
  have hw1 : IntKind.i64.wrap (1 - A) = 1 - A := IntWalk.i64_in _ (by omega)
  have hA0 : 0 ≤ A := by omega
  have hA1 : A ≤ 1 := by omega
  have haR : (a : Int) < R := by omega
  have hbR : (b : Int) < R := by omega
  have hcC : (c : Int) < C := by omega
  have hdC : (d : Int) < C := by omega
  have habI : (a : Int) < b := by omega
  have hcdI : (c : Int) < d := by omega
  have hle : ¬ (b : Int) ≤ a := by omega
  clear hin hI hcell hc1 hc2 hA hB hE hD hfa HF
  by_cases e1 : D = A
  · subst e1
    have k1 : (D == D) = true := beq_iff_eq.2 rfl
    by_cases e2 : B = 1 - D
    · subst e2
      have k2 : (1 - D == 1 - D) = true := beq_iff_eq.2 rfl
      by_cases e3 : E = 1 - D
      · subst e3
        go_enter Tryz.func109, Tryz.ntmps109
        go_wp2_with (first | (with_reducible refine wpList_boxSw ⟨a, b, c, d⟩ 3 rfl rfl (.tmp 1) rfl rfl ?_; intro w2 h2 b2 s2; clear s2; obtain ⟨c0, c1, c2, c3⟩ := swAt_cells h2; replace hx1 := below_cell b2 hg hx1; replace hx2 := below_cell b2 hg hx2; replace r1 := below_cell b2 hg1 r1; replace r2 := below_cell b2 hg1 r2; replace r3 := below_cell b2 hg2 r3; replace r4 := below_cell b2 hg2 r4) | ((with_reducible refine (l02In_img _ R C f a c _ (inMat_below HI.out b2) H.out true ⟨fun _ => H1.out, fun _ => rfl⟩).mono ?_); rintro e w' ⟨rfl, rfl⟩) | ((with_reducible refine (l02In_img _ R C f b d _ (inMat_below HI.out b2) H.out true ⟨fun _ => H2.out, fun _ => rfl⟩).mono ?_); rintro e w' ⟨rfl, rfl⟩))
        go_quiet (fail)
        go_wp2
        go_quiet (fail)
        go_wp2
        go_ret
        exact ⟨ret_bool (by rw [Bool.eq_iff_iff]; simp), below_draws (below_draws b2 _) _⟩
      · have k3 : (E == 1 - D) = false := beq_eq_false_iff_ne.2 e3
        have E3 := hide e3
        clear e3
        go_enter Tryz.func109, Tryz.ntmps109
        go_wp2_with (first | (with_reducible refine wpList_boxSw ⟨a, b, c, d⟩ 3 rfl rfl (.tmp 1) rfl rfl ?_; intro w2 h2 b2 s2; clear s2; obtain ⟨c0, c1, c2, c3⟩ := swAt_cells h2; replace hx1 := below_cell b2 hg hx1; replace hx2 := below_cell b2 hg hx2; replace r1 := below_cell b2 hg1 r1; replace r2 := below_cell b2 hg1 r2; replace r3 := below_cell b2 hg2 r3; replace r4 := below_cell b2 hg2 r4) | ((with_reducible refine (l02In_img _ R C f a c _ (inMat_below HI.out b2) H.out true ⟨fun _ => H1.out, fun _ => rfl⟩).mono ?_); rintro e w' ⟨rfl, rfl⟩) | ((with_reducible refine (l02In_img _ R C f b d _ (inMat_below HI.out b2) H.out true ⟨fun _ => H2.out, fun _ => rfl⟩).mono ?_); rintro e w' ⟨rfl, rfl⟩))
        go_quiet (fail)
        go_wp2
        go_quiet (fail)
        go_wp2
        go_ret
        exact ⟨ret_bool (by rw [Bool.eq_iff_iff]; simp [E3.out]), below_draws (below_draws b2 _) _⟩
    · have k2 : (B == 1 - D) = false := beq_eq_false_iff_ne.2 e2
      have E2 := hide e2
      clear e2
      go_enter Tryz.func109, Tryz.ntmps109
      go_wp2_with (first | (with_reducible refine wpList_boxSw ⟨a, b, c, d⟩ 3 rfl rfl (.tmp 1) rfl rfl ?_; intro w2 h2 b2 s2; clear s2; obtain ⟨c0, c1, c2, c3⟩ := swAt_cells h2; replace hx1 := below_cell b2 hg hx1; replace hx2 := below_cell b2 hg hx2; replace r1 := below_cell b2 hg1 r1; replace r2 := below_cell b2 hg1 r2; replace r3 := below_cell b2 hg2 r3; replace r4 := below_cell b2 hg2 r4) | ((with_reducible refine (l02In_img _ R C f a c _ (inMat_below HI.out b2) H.out true ⟨fun _ => H1.out, fun _ => rfl⟩).mono ?_); rintro e w' ⟨rfl, rfl⟩) | ((with_reducible refine (l02In_img _ R C f b d _ (inMat_below HI.out b2) H.out true ⟨fun _ => H2.out, fun _ => rfl⟩).mono ?_); rintro e w' ⟨rfl, rfl⟩))
      go_quiet (fail)
      go_wp2
      go_quiet (fail)
      go_wp2
      go_ret
      exact ⟨ret_bool (by rw [Bool.eq_iff_iff]; simp [E2.out]), below_draws (below_draws b2 _) _⟩
  · have k1 : (D == A) = false := beq_eq_false_iff_ne.2 e1
    have E1 := hide e1
    clear e1
    go_enter Tryz.func109, Tryz.ntmps109
    go_wp2_with (first | (with_reducible refine wpList_boxSw ⟨a, b, c, d⟩ 3 rfl rfl (.tmp 1) rfl rfl ?_; intro w2 h2 b2 s2; clear s2; obtain ⟨c0, c1, c2, c3⟩ := swAt_cells h2; replace hx1 := below_cell b2 hg hx1; replace hx2 := below_cell b2 hg hx2; replace r1 := below_cell b2 hg1 r1; replace r2 := below_cell b2 hg1 r2; replace r3 := below_cell b2 hg2 r3; replace r4 := below_cell b2 hg2 r4) | ((with_reducible refine (l02In_img _ R C f a c _ (inMat_below HI.out b2) H.out true ⟨fun _ => H1.out, fun _ => rfl⟩).mono ?_); rintro e w' ⟨rfl, rfl⟩) | ((with_reducible refine (l02In_img _ R C f b d _ (inMat_below HI.out b2) H.out true ⟨fun _ => H2.out, fun _ => rfl⟩).mono ?_); rintro e w' ⟨rfl, rfl⟩))
    go_quiet (fail)
    go_wp2
    go_quiet (fail)
    go_wp2
    go_ret
    exact ⟨ret_bool (by rw [Bool.eq_iff_iff]; simp [E1.out]), below_draws (below_draws b2 _) _⟩
theorem specSwitchOk_img (v : Value) (R C : Nat) (f : Nat → Nat → Int) (s : Sw) (w : World) (hin : InMat w v (mkM R C f)) (hI : Img R C f) :
    Calls Tryz.prog 109 #[v, swV s] w fun e w' => e = .returned (.bool (swF R C f s)) ∧ Below w.heap.size w w' := by
  by_cases h1 : 0 ≤ s.y1 ∧ s.y1 < R ∧ 0 ≤ s.x1 ∧ s.x1 < C
  · by_cases h2 : 0 ≤ s.y2 ∧ s.y2 < R ∧ 0 ≤ s.x2 ∧ s.x2 < C
    · by_cases h3 : s.y1 < s.y2
      · by_cases h4 : s.x1 < s.x2
        · obtain ⟨y1, y2, x1, x2⟩ := s
          simp only at h1 h2 h3 h4
          obtain ⟨a, rfl⟩ : ∃ a : Nat, y1 = a := ⟨y1.toNat, by omega⟩
          obtain ⟨b, rfl⟩ : ∃ b : Nat, y2 = b := ⟨y2.toNat, by omega⟩
          obtain ⟨c, rfl⟩ : ∃ c : Nat, x1 = c := ⟨x1.toNat, by omega⟩
          obtain ⟨d, rfl⟩ : ∃ d : Nat, x2 = d := ⟨x2.toNat, by omega⟩
          exact specSwitchOk_five v R C f a b c d w hin hI (by omega) (by omega) (by omega) (by omega)
        · exact specSwitchOk_four v R C f s w hin hI h1 h2 h3 h4
      · exact specSwitchOk_three v R C f s w hin hI h1 h2 h3
    · exact specSwitchOk_two v R C f s w hin hI h1 h2
  · exact specSwitchOk_one v R C f s w hin hI h1
end Go.Proofs.YtcliiefedmiokaaGreat
/-
  SwitchesOf of the model.
-/
namespace Go.Proofs.YtcliiefedmiokaaGreat
open Go.RowKit

theorem swB_dec {R C : Nat} {f : Nat → Nat → Int} (hI : Img R C f) {i : Nat} (h : swB (mkM R C f) (decS i) = true) : i / 125 < i / 25 % 5 ∧ i / 5 % 5 < i % 5 ∧ i / 25 % 5 < R ∧ i % 5 < C := by
  rw [swB_mk hI] at h
  obtain ⟨a, b, c, d, e1, h1⟩ := swF_iff.1 h
  obtain ⟨h2, h3, h4, h5, -⟩ := four_iff.1 h1
  unfold decS at e1
  simp only [Sw.mk.injEq] at e1
  omega
theorem upS_to {R C : Nat} {f : Nat → Nat → Int} (hI : Img R C f) {k l : Nat} (hkl : k ≤ l) (h : ∀ i, k ≤ i → i < l → i / 125 < i / 25 % 5 → i / 5 % 5 < i % 5 → i / 25 % 5 < R → i % 5 < C → False) : upS (mkM R C f) l = upS (mkM R C f) k :=
  upS_skip hkl fun i h1 h2 => by
    rw [Bool.eq_false_iff]
    intro e
    obtain ⟨g1, g2, g3, g4⟩ := swB_dec hI e
    exact h i h1 h2 g1 g2 g3 g4
set_option maxHeartbeats 400000 in
theorem specSwitchesOf_no (v : Value) (m : List (List Int)) (w : World) (hin : InMat w v m) (h : okB m = false) :
    Calls Tryz.prog 63 #[v] w (SwsRes [] w) := by
  have HI := hide hin; have H := hide h
  clear hin h
  go_enter Tryz.func63, Tryz.ntmps63
  go_wp2_with ((with_reducible refine (specImageOk_any v m _ HI.out).mono ?_); rw [H.out]; rintro e w' ⟨rfl, rfl⟩)
  go_ret
  exact ⟨_, rfl, ownSws_nil _ _, Below.refl _ _⟩
set_option maxRecDepth 100000 in
set_option maxHeartbeats 4000000 in
theorem specSwitchesOf_yes (v : Value) (R C : Nat) (f : Nat → Nat → Int) (w : World) (hin : InMat w v (mkM R C f)) (hI : Img R C f) :
    Calls Tryz.prog 63 #[v] w (SwsRes (swsM (mkM R C f)) w) := by
  have hR := hI.r2; have hC := hI.c2; have hR1 := hI.r1; have hC1 := hI.c1
  have HI := hide hin; have H := hide (img_ok hI)
  have HOK := hide fun s v w h => specSwitchOk_img v R C f s w h hI
  have HB' : Hid (∀ s, swF R C f s = swB (mkM R C f) s) := hide fun s => by rw [swB_mk hI]
  have T1 := hide fun a (_ : a < 5) => upS_to (f := f) hI (k := 125 * a) (l := 125 * a + 25 * (a + 1)) (by omega) fun i _ _ _ _ _ _ => by omega
  have T2 := hide fun a b x (_ : a < 5) (_ : b < 5) (_ : x < 5) => upS_to (f := f) hI (k := 125 * a + 25 * b + 5 * x) (l := 125 * a + 25 * b + 5 * x + (x + 1)) (by omega) fun i _ _ _ _ _ _ => by omega
  have T3 := hide fun a b x (_ : a < 5) (_ : b < 5) (_ : x < 5) => upS_to (f := f) hI (k := 125 * a + 25 * b + 5 * x + C) (l := 125 * a + 25 * b + 5 * (x + 1)) (by omega) fun i _ _ _ _ _ _ => by omega
  have T4 := hide fun a b (_ : a < 5) (_ : b < 5) => upS_to (f := f) hI (k := 125 * a + 25 * b + 5 * C) (l := 125 * a + 25 * (b + 1)) (by omega) fun i _ _ _ _ _ _ => by omega
  have T5 := hide fun a (_ : a < 5) => upS_to (f := f) hI (k := 125 * a + 25 * R) (l := 125 * (a + 1)) (by omega) fun i _ _ _ _ _ _ => by omega
  have T6 := hide (upS_to (f := f) hI (k := 125 * R) (l := 625) (by omega) fun i _ _ _ _ _ _ => by omega)
  have HDEC : Hid (∀ a b x y : Nat, b < 5 → x < 5 → y < 5 → decS (125 * a + 25 * b + 5 * x + y) = ⟨a, b, x, y⟩) := hide fun a b x y _ _ _ => by
    unfold decS
    rw [show (125 * a + 25 * b + 5 * x + y) / 125 = a by omega, show (125 * a + 25 * b + 5 * x + y) / 25 % 5 = b by omega, show (125 * a + 25 * b + 5 * x + y) / 5 % 5 = x by omega, show (125 * a + 25 * b + 5 * x + y) % 5 = y by omega]
  obtain ⟨g0, o0, c0, rfl, hg0, hcell⟩ := inMat_img hin (by omega) (by omega)
  obtain ⟨g1, o1, k1, r0, -⟩ := hcell 0 (by omega)
  rw [Nat.add_zero] at r0
  have HR0 := hide r0
  show Calls _ _ _ _ (SwsRes (upS (mkM R C f) 625) w)
  obtain ⟨m, hm⟩ : ∃ m, m = mkM R C f := ⟨_, rfl⟩
  rw [← hm] at T1 T2 T3 T4 T5 T6 HB' H HI ⊢
  rw [← hm] at HOK
  have HLEN := hide (upS_len m)
  have HYES := hide (fun k h => upS_yes (m := m) (k := k) h)
  have HNO := hide (fun k h => upS_no (m := m) (k := k) h)
  clear hm hin hI hcell r0
  go_enter Tryz.func63, Tryz.ntmps63
  go_wp2_with ((with_reducible refine (specImageOk_any _ m _ HI.out).mono ?_); rw [H.out]; rintro e w' ⟨rfl, rfl⟩)
  have HO : Hid (OwnSws (w.alloc (.cells #[] 77)) w.heap.size (.slice (some ⟨w.heap.size, 0, none⟩) 0 0) []) := hide (World.ownsRow_made (base := w.heap.size) w #[] 0 (Nat.le_refl _) (Nat.zero_le _) rfl)
  have HB := hide ((Below.refl w.heap.size w).alloc (Nat.le_refl _) (.cells #[] 77))
  generalize w.alloc (.cells #[] 77) = w1 at HO HB ⊢
  go_loopw [3, 15] (fun u t w' => ∃ (a : Nat) (v : Value), a ≤ R ∧ t = .int .i64 a ∧ v = u ∧ OwnSws w' w.heap.size v (upS m (125 * a)) ∧ Below w.heap.size w w') (fun _ t _ => R - (intOf t).toNat)
  case atStart => exact ⟨0, _, by omega, rfl, rfl, HO.out, HB.out⟩
  case round =>
    clear HO HB
    obtain ⟨a, v, ha, rfl, rfl, ho, hb⟩ := hrel
    have HO := hide ho; have HB := hide hb
    clear ho hb
    by_cases hla : a < R
    · have haI : (a : Int) < R := by omega
      rw [← T1.out a (by omega)] at HO
      go_wp2
      go_loopw [3, 5] (fun u t w' => ∃ (b : Nat) (v : Value), (a + 1 ≤ b ∧ b ≤ R) ∧ t = .int .i64 b ∧ v = u ∧ OwnSws w' w.heap.size v (upS m (125 * a + 25 * b)) ∧ Below w.heap.size w w') (fun _ t _ => R - (intOf t).toNat)
      case atStart => exact ⟨a + 1, _, by omega, by go_num, rfl, HO.out, HB.out⟩
      case round =>
        clear HO HB
        obtain ⟨b, v, ⟨hb1, hb2⟩, rfl, rfl, ho, hb⟩ := hrel
        have HO := hide ho; have HB := hide hb
        clear ho hb
        by_cases hlb : b < R
        · have hbI : (b : Int) < R := by omega
          have r0 := below_cell HB.out hg0 HR0.out
          go_wp2
          clear r0
          go_loopw [3, 30] (fun u t w' => ∃ (x : Nat) (v : Value), x ≤ C ∧ t = .int .i64 x ∧ v = u ∧ OwnSws w' w.heap.size v (upS m (125 * a + 25 * b + 5 * x)) ∧ Below w.heap.size w w') (fun _ t _ => C - (intOf t).toNat)
          case atStart => exact ⟨0, _, by omega, rfl, rfl, HO.out, HB.out⟩
          case round =>
            clear HO HB
            obtain ⟨x, v, hx, rfl, rfl, ho, hb⟩ := hrel
            have HO := hide ho; have HB := hide hb
            clear ho hb
            by_cases hlx : x < C
            · have hxI : (x : Int) < C := by omega
              rw [← T2.out a b x (by omega) (by omega) (by omega)] at HO
              go_wp2
              go_loopw [3, 7] (fun u t w' => ∃ (y : Nat) (v : Value), (x + 1 ≤ y ∧ y ≤ C) ∧ t = .int .i64 y ∧ v = u ∧ OwnSws w' w.heap.size v (upS m (125 * a + 25 * b + 5 * x + y)) ∧ Below w.heap.size w w') (fun _ t _ => C - (intOf t).toNat)
              case atStart => exact ⟨x + 1, _, by omega, by go_num, rfl, HO.out, HB.out⟩
              case round =>
                clear HO HB
                obtain ⟨y, v, ⟨hy1, hy2⟩, rfl, rfl, ho, hb⟩ := hrel
                have HO := hide ho; have HB := hide hb
                clear ho hb
                have r0 := below_cell HB.out hg0 HR0.out
                by_cases hly : y < C
                · have hyI : (y : Int) < C := by omega
                  obtain ⟨k, hk⟩ : ∃ k, k = 125 * a + 25 * b + 5 * x + y := ⟨_, rfl⟩
                  have HK := hide (show k < 1000 by omega)
                  have HDE := hide (HDEC.out a b x y (by omega) (by omega) (by omega))
                  rw [← hk] at HO HDE
                  have HKK : Hid (125 * a + 25 * b + 5 * x + (y + 1) = k + 1) := hide (by omega)
                  have HL := hide (HLEN.out k)
                  obtain ⟨s, hs⟩ : ∃ s : Sw, s = ⟨a, b, x, y⟩ := ⟨_, rfl⟩
                  have HSV := hide (show Value.agg #[.int .i64 (a : Int), .int .i64 (b : Int), .int .i64 (x : Int), .int .i64 (y : Int)] = swV s by rw [hs]; rfl)
                  rw [← hs] at HDE
                  have hsz := HB.out.size
                  clear hk hs
                  cases hsb : swB m s with
                  | false =>
                    have HSB := hide (show swF R C f s = false by rw [HB'.out, hsb])
                    have HN := hide (HNO.out k (by rw [HDE.out]; exact hsb))
                    clear hsb
                    go_wp2_with (first | ((with_reducible refine wpList_allocSw 8 rfl rfl rfl ?_); intro w7 h7 b7 s7) | ((refine wpList_storeSw h7 s rfl (.tmp 8) (.tmp 47) rfl rfl HSV.out ?_); intro w8 h8 g8 s8; have b8 := b7.trans (grown_below g8 (fun k hk => by cases hk; exact Nat.le_refl _) b7.size); have HO1 := hide (ownSws_below HO.out b8); have HB1 := hide (HB.out.trans (b8.mono HB.out.size)); clear h7 b7 s7 g8 s8 b8) | (with_reducible refine wpList_loadSwC (swC_at h8) 49 rfl rfl _ rfl rfl ?_) | ((with_reducible refine (HOK.out s _ _ (inMat_below HI.out HB1.out)).mono ?_); rw [HSB.out]; rintro e w9 ⟨rfl, b9⟩; replace HO1 := hide (ownSws_below HO1.out b9); have h9 := swAt_below h8 b9; replace HB1 := hide (HB1.out.trans (b9.mono HB1.out.size)); clear h8 b9) | (with_reducible refine wpList_loadSwC (swC_at h9) 52 rfl rfl _ rfl rfl ?_) | (refine wpList_buildOneA (swA s) _ 53 rfl rfl (.tmp 52) rfl rfl Tryz.underlying73 Tryz.infoSw (by decide) (by decide) rfl ?_) | (at_builtin; refine wpList_pushA HO1.out (swA s) _ rfl _ _ rfl Tryz.underlying73 Tryz.infoSw rfl (by decide) (by decide) rfl rfl rfl (swA_one s) (by have := HL.out; have := HK.out; omega) HB1.out.size ?_; intro g cap wa hown ba ga ata lta))
                    go_roundw
                    case rel => exact ⟨y + 1, _, by omega, by go_num, rfl, by rw [HKK.out, HN.out]; exact HO1.out, HB1.out⟩
                    case measure => simp [intOf]; omega
                  | true =>
                    have HSB := hide (show swF R C f s = true by rw [HB'.out, hsb])
                    have HN := hide (HYES.out k (by rw [HDE.out]; exact hsb))
                    clear hsb
                    go_wp2_with (first | ((with_reducible refine wpList_allocSw 8 rfl rfl rfl ?_); intro w7 h7 b7 s7) | ((refine wpList_storeSw h7 s rfl (.tmp 8) (.tmp 47) rfl rfl HSV.out ?_); intro w8 h8 g8 s8; have b8 := b7.trans (grown_below g8 (fun k hk => by cases hk; exact Nat.le_refl _) b7.size); have HO1 := hide (ownSws_below HO.out b8); have HB1 := hide (HB.out.trans (b8.mono HB.out.size)); clear h7 b7 s7 g8 s8 b8) | (with_reducible refine wpList_loadSwC (swC_at h8) 49 rfl rfl _ rfl rfl ?_) | ((with_reducible refine (HOK.out s _ _ (inMat_below HI.out HB1.out)).mono ?_); rw [HSB.out]; rintro e w9 ⟨rfl, b9⟩; replace HO1 := hide (ownSws_below HO1.out b9); have h9 := swAt_below h8 b9; replace HB1 := hide (HB1.out.trans (b9.mono HB1.out.size)); clear h8 b9) | (with_reducible refine wpList_loadSwC (swC_at h9) 52 rfl rfl _ rfl rfl ?_) | (refine wpList_buildOneA (swA s) _ 53 rfl rfl (.tmp 52) rfl rfl Tryz.underlying73 Tryz.infoSw (by decide) (by decide) rfl ?_) | (at_builtin; refine wpList_pushA HO1.out (swA s) _ rfl _ _ rfl Tryz.underlying73 Tryz.infoSw rfl (by decide) (by decide) rfl rfl rfl (swA_one s) (by have := HL.out; have := HK.out; omega) HB1.out.size ?_; intro g cap wa hown ba ga ata lta))
                    go_roundw
                    case rel =>
                      refine ⟨y + 1, _, by omega, by go_num, rfl, ?_, HB1.out.trans (ba.mono (Nat.le_refl _))⟩
                      rw [HKK.out, HN.out, HDE.out]
                      unfold OwnSws
                      rw [cellsS_snoc, List.length_append]
                      exact hown
                    case measure => simp [intOf]; omega
                · obtain rfl : y = C := by omega
                  have HT := hide (T3.out a b x (by omega) (by omega) (by omega))
                  go_wp2
                  go_roundw
                  case rel => exact ⟨x + 1, _, by omega, by go_num, rfl, by rw [HT.out]; exact HO.out, HB.out⟩
                  case measure => simp [intOf]; omega
            · obtain rfl : x = C := by omega
              have HT := hide (T4.out a b (by omega) (by omega))
              go_wp2
              go_roundw
              case rel => exact ⟨b + 1, _, by omega, by go_num, rfl, by rw [HT.out]; exact HO.out, HB.out⟩
              case measure => simp [intOf]; omega
        · obtain rfl : b = R := by omega
          have HT := hide (T5.out a (by omega))
          go_wp2
          go_roundw
          case rel => exact ⟨a + 1, _, by omega, by go_num, rfl, by rw [HT.out]; exact HO.out, HB.out⟩
          case measure => simp [intOf]; omega
    · obtain rfl : a = R := by omega
      go_wp2
      go_ret
      exact ⟨_, rfl, by rw [T6.out]; exact HO.out, HB.out⟩
end Go.Proofs.YtcliiefedmiokaaGreat
/-
  eqSwitch, eqSwitchS of the exact laws, at the same switches.
-/
namespace Go.Proofs.YtcliiefedmiokaaGreat
open Go.RowKit

theorem exec_loadSwC {ρ : Operand → Value} {o : Oper} {w : World} {x : Operand} {g k : Nat} {s : Sw} (ho : o.op = .load 77 x) (hx : ρ x = .pointer (some ⟨g, k, none⟩)) (hb : SwC w g k s) : (execOp ρ o).run Tryz.prog w = .ok (.value (swV s)) w := by
  obtain ⟨h0, h1, h2, h3⟩ := hb
  unfold execOp
  simp only [ho, hx]
  go_simp
  rfl
theorem exec_indexSw {ρ : Operand → Value} {o : Oper} {w : World} {x i : Operand} {g b n c k : Nat} (ho : o.op = .indexAddr 73 x i) (hx : ρ x = .slice (some ⟨g, b, none⟩) n c) (hi : ρ i = .int .i64 k) (hk : k < n) : (execOp ρ o).run Tryz.prog w = .ok (.value (.pointer (some ⟨g, b + k * 4, none⟩))) w := by
  have hkI : (k : Int) < n := by omega
  unfold execOp
  simp only [ho, hx, hi]
  go_simp

theorem exec_not {P : Program} {ρ : Operand → Value} {o : Oper} {w : World} {x : Operand} {T : TypeId} {b : Bool} (ho : o.op = .unOp .not T x) (hx : ρ x = .bool b) : (execOp ρ o).run P w = .ok (.value (.bool !b)) w := by
  unfold execOp
  simp only [ho, hx]
  rfl
end Go.Proofs.YtcliiefedmiokaaGreat
/-
  What the model's search keeps: images and ways, both lists of the call's own.
-/
namespace Go.Proofs.YtcliiefedmiokaaGreat
open Go.RowKit
set_option maxRecDepth 100000

theorem Tryz.infoWay : (Tryz.prog.info? 73).map (fun i => (i.zero, i.size, i.bytes)) = some (some (.slice none 0 0), 1, 24) := by kernel_rfl
theorem grownA_kept {w w' : World} {b1 b2 e1 e2 n1 n2 z1 z2 : Nat} {v u : Value} {xs ys : List Value} (h : w.ownsRow b1 e1 z1 v n1 xs) (hu : w.ownsRow b2 e2 z2 u n2 ys) (hg : w.grownBy w' u.ownBlock) (hne : e1 ≠ e2) : w'.ownsRow b1 e1 z1 v n1 xs := h.kept hg (ownA_types h hu hne)
theorem own_at {w : World} {base e n : Nat} {v : Value} {xs : List Value} (h : w.ownsRow base e 1 v n xs) {i : Nat} (hi : i < n) : ∃ g c, v = .slice (some ⟨g, 0, none⟩) n c ∧ base ≤ g ∧ g < w.heap.size ∧ ∀ j, j < n → w.cell? ⟨g, j, none⟩ = some (xs.getD j undef) := by
  obtain ⟨g, c, rfl, h1, h2, -, -, h3, -⟩ := ownA_some h (by omega)
  refine ⟨g, c, rfl, h1, h2, fun j hj => ?_⟩
  have hl : xs.length = n := by have := h.1; omega
  rw [h3 j (by omega), List.getD_eq_getElem?_getD, List.getElem?_eq_getElem (show j < xs.length by omega)]; rfl
theorem own_max {w : World} {base e n z : Nat} {v : Value} {xs : List Value} (h : w.ownsRow base e z v n xs) : n ≤ maxLen := by
  rcases h.2 with ⟨-, h0⟩ | ⟨g, cap, cur, rfl, hbg, hg, hc, hm, _⟩
  · omega
  · omega

/-- A list of switches of the call's own that is not nil. -/
def OwnSwE (w : World) (lo : Nat) (v : Value) (l : List Sw) : Prop := OwnSws w lo v l ∧ ∃ g c, v = .slice (some ⟨g, 0, none⟩) l.length c
theorem ownSwE_below {w w' : World} {lo : Nat} {v : Value} {l : List Sw} (h : OwnSwE w lo v l) (hb : Below w.heap.size w w') : OwnSwE w' lo v l := ⟨ownSws_below h.1 hb, h.2⟩
theorem ownSwE_kept {w w' : World} {lo B e n z : Nat} {v u : Value} {l : List Sw} {xs : List Value} (h : OwnSwE w lo v l) (hu : w.ownsRow B e z u n xs) (hg : w.grownBy w' u.ownBlock) (hne : 77 ≠ e) : OwnSwE w' lo v l := ⟨grownA_kept h.1 hu hg hne, h.2⟩
theorem ownSwE_base {w : World} {lo lo' : Nat} {v : Value} {l : List Sw} (h : OwnSwE w lo v l) (hb : lo' ≤ lo) : OwnSwE w lo' v l := ⟨ownSws_base h.1 hb, h.2⟩
/-- Ways, one behind the other. -/
def OwnWs (w : World) (lo : Nat) (v : Value) (V : List (List Sw)) : Prop :=
  ∃ us : List Value, w.ownsRow lo 73 1 v V.length us ∧ ∀ i, (h : i < V.length) → OwnSwE w lo (us.getD i undef) V[i]
theorem ownWs_below {w w' : World} {lo : Nat} {v : Value} {V : List (List Sw)} (h : OwnWs w lo v V) (hb : Below w.heap.size w w') : OwnWs w' lo v V := by
  obtain ⟨us, h1, h2⟩ := h
  exact ⟨us, own_below h1 hb, fun i hi => ownSwE_below (h2 i hi) hb⟩
theorem ownWs_kept {w w' : World} {lo B e n z : Nat} {v u : Value} {V : List (List Sw)} {xs : List Value} (h : OwnWs w lo v V) (hu : w.ownsRow B e z u n xs) (hg : w.grownBy w' u.ownBlock) (h1 : 73 ≠ e) (h2 : 77 ≠ e) : OwnWs w' lo v V := by
  obtain ⟨us, g1, g2⟩ := h
  exact ⟨us, grownA_kept g1 hu hg h1, fun i hi => ownSwE_kept (g2 i hi) hu hg h2⟩
theorem ownImgs_kept {w w' : World} {lo B e n z : Nat} {v u : Value} {L : List (List (List Int))} {xs : List Value} (h : OwnImgs w lo v L) (hu : w.ownsRow B e z u n xs) (hg : w.grownBy w' u.ownBlock) (h1 : 22 ≠ e) (h2 : 30 ≠ e) (h3 : 3 ≠ e) : OwnImgs w' lo v L := by
  obtain ⟨us, g1, g2⟩ := h
  refine ⟨us, grownA_kept g1 hu hg h1, fun i hi => ?_⟩
  obtain ⟨hi', h0, vs, f1, f2, f3, f4⟩ := g2 i hi
  exact ⟨hi', Nat.le_trans h0 hg.size, vs, grownA_kept f1 hu hg h2, f2, fun i hi => ⟨grownA_kept (f3 i hi).1 hu hg h3, (f3 i hi).2⟩, f4⟩
theorem ownWs_push {w w' : World} {lo : Nat} {v v' u : Value} {us : List Value} {V : List (List Sw)} {p : List Sw} (hv : w.ownsRow lo 73 1 v V.length us) (hr : ∀ i, (h : i < V.length) → OwnSwE w lo (us.getD i undef) V[i]) (hu : OwnSwE w lo u p)
    (hg : w.grownBy w' v.ownBlock) (ho : w'.ownsRow lo 73 1 v' (V.length + 1) (us ++ [u])) : OwnWs w' lo v' (V ++ [p]) := by
  have hl : us.length = V.length := by have := hv.1; omega
  refine ⟨us ++ [u], by simpa using ho, fun i h => ?_⟩
  by_cases e : i < V.length
  · have e1 : (us ++ [u]).getD i undef = us.getD i undef := by simp [List.getD_eq_getElem?_getD, List.getElem?_append_left (show i < us.length by omega)]
    rw [e1, List.getElem_append_left e]
    exact ownSwE_kept (hr i e) hv hg (by decide)
  · obtain rfl : i = V.length := by simp at h; omega
    have e1 : (us ++ [u]).getD V.length undef = u := by rw [← hl]; simp [List.getD_eq_getElem?_getD]
    rw [e1, show (V ++ [p])[V.length] = p by simp]
    exact ownSwE_kept hu hv hg (by decide)
theorem ownWs_ways {w : World} {lo : Nat} {v : Value} {V : List (List Sw)} (h : OwnWs w lo v V) : OwnWays w lo v V := by
  obtain ⟨us, h1, h2⟩ := h
  obtain ⟨a, c, rfl⟩ := own_slice h1
  refine ⟨a, c, rfl, ?_⟩
  by_cases h0 : V.length = 0
  · exact .inl h0
  · right
    obtain ⟨g, c', e, -, hg, hc⟩ := own_at h1 (i := 0) (by omega)
    injection e with e1
    exact ⟨g, e1, hg, fun i hi => ⟨_, hc i hi, (h2 i hi).1⟩⟩
theorem ownImgs_in {w : World} {lo : Nat} {v : Value} {L : List (List (List Int))} (h : OwnImgs w lo v L) : InImgs w v L := by
  obtain ⟨us, h1, h2⟩ := h
  obtain ⟨a, c, rfl⟩ := own_slice h1
  refine ⟨a, c, rfl, own_max h1, ?_⟩
  by_cases h0 : L.length = 0
  · exact .inl h0
  · right
    obtain ⟨g, c', e, -, hg, hc⟩ := own_at h1 (i := 0) (by omega)
    injection e with e1
    exact ⟨g, 0, e1, hg, fun i hi => ⟨_, by rw [Nat.zero_add]; exact hc i hi, by obtain ⟨hi', -, h3⟩ := h2 i hi; exact inMat_own h3⟩⟩
theorem ownM2_slice {w : World} {lo : Nat} {v : Value} {m : List (List Int)} (h : OwnM2 w lo v m) : ∃ a n c, v = .slice a n c := by
  obtain ⟨hi, -, vs, h1, -⟩ := h
  obtain ⟨a, c, e⟩ := own_slice h1
  exact ⟨a, _, c, e⟩
theorem imgs_at {w : World} {lo a : Nat} {v : Value} {L : List (List (List Int))} (h : OwnImgs w lo v L) (ha : a < L.length) :
    ∃ g c xa xn xc, v = .slice (some ⟨g, 0, none⟩) L.length c ∧ g < w.heap.size ∧ w.cell? ⟨g, a, none⟩ = some (.slice xa xn xc) ∧ OwnM2 w lo (.slice xa xn xc) (L.getD a []) := by
  obtain ⟨us, h1, h2⟩ := h
  obtain ⟨g, c, rfl, -, hg, hc⟩ := own_at h1 ha
  obtain ⟨xa, xn, xc, e⟩ := ownM2_slice (h2 a ha)
  have h3 := h2 a ha
  rw [e] at h3
  exact ⟨g, c, xa, xn, xc, rfl, hg, by rw [hc a ha, e], by rwa [List.getD_eq_getElem?_getD, List.getElem?_eq_getElem ha]⟩
theorem ways_at {w : World} {lo a : Nat} {v : Value} {V : List (List Sw)} (h : OwnWs w lo v V) (ha : a < V.length) :
    ∃ g c gp pc, v = .slice (some ⟨g, 0, none⟩) V.length c ∧ g < w.heap.size ∧ w.cell? ⟨g, a, none⟩ = some (.slice (some ⟨gp, 0, none⟩) (V.getD a []).length pc) ∧ OwnSws w lo (.slice (some ⟨gp, 0, none⟩) (V.getD a []).length pc) (V.getD a []) := by
  obtain ⟨us, h1, h2⟩ := h
  obtain ⟨g, c, rfl, -, hg, hc⟩ := own_at h1 ha
  obtain ⟨h3, gp, pc, e⟩ := h2 a ha
  have e2 : V.getD a [] = V[a] := by rw [List.getD_eq_getElem?_getD, List.getElem?_eq_getElem ha]; rfl
  rw [e] at h3
  refine ⟨g, c, gp, pc, rfl, hg, by rw [hc a ha, e, e2], by rw [e2]; exact h3⟩

/-- What stands through the search. -/
def VSt (w : World) (L : List (List (List Int))) (W : List (List Sw)) (lv wv : Value) (w' : World) : Prop := OwnImgs w' w.heap.size lv L ∧ OwnWs w' w.heap.size wv W ∧ Below w.heap.size w w'
theorem vst_below {w w1 w2 : World} {L : List (List (List Int))} {W : List (List Sw)} {lv wv : Value} (h : VSt w L W lv wv w1) (hb : Below w1.heap.size w1 w2) : VSt w L W lv wv w2 :=
  ⟨ownImgs_below h.1 hb, ownWs_below h.2.1 hb, h.2.2.trans (hb.mono h.2.2.size)⟩

theorem specSwitches_node {R C : Nat} {x : List (List Int)} (v : Value) (w : World) (hin : InMat w v x) (h : Node R C x) : Calls Tryz.prog 63 #[v] w (SwsRes (swsM x) w) := by
  obtain ⟨f, rfl, hI⟩ := h
  exact specSwitchesOf_yes v R C f w hin hI
theorem specApply_node {R C : Nat} {x : List (List Int)} {s : Sw} (v : Value) (w : World) (hin : InMat w v x) (h : Node R C x) (hs : swB x s = true) : Calls Tryz.prog 64 #[v, swV s] w (MatRes (flipM x s) w) := by
  obtain ⟨f, rfl, hI⟩ := h
  rw [swB_mk hI] at hs
  rw [flipM_mk hI]
  exact specApply_img v R C f s w hin hI hs
theorem bfs_wlen {m : List (List Int)} {L : List (List (List Int))} {W : List (List Sw)} {a K : Nat} (h : Bfs m L W a K) : ∀ i, i < L.length → (W.getD i []).length ≤ i := by
  intro i
  induction i using Nat.strongRecOn with
  | ind i ih =>
    intro hi
    rcases h.tree i hi with ⟨e, -⟩ | ⟨j, s, hj, e, -, -⟩
    · rw [e]; exact Nat.zero_le _
    · have := ih j hj (by omega)
      rw [e, List.length_append, List.length_singleton]; omega

/-- An image of the call's own. -/
def imgNew (B : Nat) (m : List (List Int)) : FactP := fun u w2 => OwnM2 w2 B u m
theorem stable_imgNew (B : Nat) (m : List (List Int)) : StableP (imgNew B m) := fun _ _ _ hb h => ownM2_below h hb
/-- An empty list of switches, new. -/
def emptyF (B : Nat) : FactP := fun u w2 => ∃ g, u = .slice (some ⟨g, 0, none⟩) 0 0 ∧ B ≤ g ∧ w2.heap[g]? = some (.cells #[] 77 (0, 0))
theorem stable_emptyF (B : Nat) : StableP (emptyF B) := fun _ _ _ hb h => by
  obtain ⟨g, h1, h2, h3⟩ := h
  exact ⟨g, h1, h2, by rw [hb.block g (Array.getElem?_eq_some_iff.1 h3).1]; exact h3⟩
/-- A list of one switch, new. -/
def oneF (B : Nat) (s : Sw) : FactP := fun u w2 => ∃ b, u = .slice (some ⟨b, 0, none⟩) 1 1 ∧ B ≤ b ∧ SwAt w2 b s
theorem stable_oneF (B : Nat) (s : Sw) : StableP (oneF B s) := fun _ _ _ hb h => by
  obtain ⟨b, h1, h2, h3⟩ := h
  exact ⟨b, h1, h2, swAt_below h3 hb⟩
def swsF (B : Nat) (p : List Sw) : FactP := fun u w2 => OwnSwE w2 B u p
theorem stable_swsF (B : Nat) (p : List Sw) : StableP (swsF B p) := fun _ _ _ hb h => ownSwE_below h hb
/-- A list of one way, new. -/
def oneWayF (B : Nat) (p : List Sw) : FactP := fun u w2 => ∃ b e, u = .slice (some ⟨b, 0, none⟩) 1 1 ∧ b < w2.heap.size ∧ w2.cell? ⟨b, 0, none⟩ = some e ∧ OwnSwE w2 B e p
theorem stable_oneWayF (B : Nat) (p : List Sw) : StableP (oneWayF B p) := fun _ _ _ hb h => by
  obtain ⟨b, e, h1, h2, h3, h4⟩ := h
  exact ⟨b, e, h1, Nat.lt_of_lt_of_le h2 hb.size, below_cell hb h2 h3, ownSwE_below h4 hb⟩
/-- The ways with one more. -/
def waysF (W : World) (lo : Nat) (v : Value) (V : List (List Sw)) : FactP := fun u w2 => W.grownBy w2 v.ownBlock ∧ OwnWs w2 lo u V
theorem stable_waysF (W : World) (lo : Nat) (v : Value) (V : List (List Sw)) : StableP (waysF W lo v V) := fun _ _ _ hb h => ⟨grown_trans h.1 (grown_of_below hb _), ownWs_below h.2 hb⟩

theorem exec_buildNoSw {ρ : Operand → Value} {o : Oper} {w : World} (ho : o.op = .buildSlice 73 0 #[]) :
    (execOp ρ o).run Tryz.prog w = .ok (.value (.slice (some ⟨w.heap.size, 0, none⟩) 0 0)) (w.alloc (.cells #[] 77)) := by
  unfold execOp
  simp only [ho]
  go_simp
theorem exec_buildSw {ρ : Operand → Value} {o : Oper} {w : World} {x : Operand} {s : Sw} (ho : o.op = .buildSlice 73 1 #[(0, x)]) (hx : ρ x = swV s) :
    (execOp ρ o).run Tryz.prog w = .ok (.value (.slice (some ⟨w.heap.size, 0, none⟩) 1 1)) (w.alloc (.cells (swA s) 77)) := by
  unfold swV swA at hx
  unfold execOp swA
  simp only [ho]
  go_simp
theorem cellsS_one (l : List Sw) : ∀ u ∈ cellsS l, u.oneCell' = true := by
  intro u hu
  unfold cellsS at hu
  obtain ⟨s, -, h⟩ := List.mem_flatMap.1 hu
  simp only [List.mem_cons, List.not_mem_nil, or_false] at h
  rcases h with rfl | rfl | rfl | rfl <;> rfl
theorem swE_of {w : World} {B : Nat} {v : Value} {l : List Sw} (h : OwnSws w B v l) (hne : v ≠ .slice none 0 0) : OwnSwE w B v l := by
  refine ⟨h, ?_⟩
  rcases h.2 with ⟨e, -⟩ | ⟨g, cap, cur, e, -⟩
  · exact absurd e hne
  · exact ⟨g, cap, e⟩
/-- 'append(v, x...)' at switches. -/
theorem exec_appSws (ty : TypeId) {W : World} {B lo m gp c : Nat} {v : Value} {p q : List Sw}
    (hv : OwnSwE W B v p) (hp : OwnSws W lo (.slice (some ⟨gp, 0, none⟩) m c) q) (hB : B ≤ W.heap.size) (hn : p.length + q.length ≤ 4000000) :
    ∃ v' w', (∀ (ρ : Operand → Value) (o : Oper) (x y : Operand), o.op = .call { callee := .builtin .append, args := #[x, y], argTypes := #[73, 73] } → o.type = ty → ρ x = v → ρ y = .slice (some ⟨gp, 0, none⟩) m c → (execOp ρ o).run Tryz.prog W = .ok (.value v') w') ∧ OwnSwE w' B v' (p ++ q) ∧ W.grownBy w' v.ownBlock := by
  obtain ⟨i0, hi, hz0, hz1, hz2⟩ := info_parts Tryz.infoSw
  have hm : m = q.length := by
    rcases hp.2 with ⟨e, -⟩ | ⟨g, cap, cur, e, -⟩
    · cases e
    · cases e; rfl
  subst hm
  obtain ⟨hv1, g, cv, rfl⟩ := hv
  obtain ⟨v', w', hr, g1, g2, g3⟩ := run_append_own (P := Tryz.prog) W B 73 ty 77 i0 _ 4 32 Tryz.underlying73 hi hz0 hz1 hz2 rfl (by decide) _ p.length (cellsS p) hv1 ⟨gp, 0, none⟩ q.length c (cellsS q) (cellsS_len q) (fun j u hj => by
      rw [addr_add, Nat.zero_add]
      have hj' : j < q.length * 4 := by have := (List.getElem?_eq_some_iff.1 hj).1; rwa [cellsS_len] at this
      rw [World.ownsRow.cellAt hp j hj', hj]) (cellsS_one q) (by unfold maxLen; omega) (by omega) hB
  refine ⟨v', w', ?_, swE_of ?_ ?_, g2⟩
  · intro ρ o x y ho ht hx hy
    subst ht
    unfold execOp
    simp only [ho, resolve, invoke, builtin, Sem.run_bind, Sem.run_pure, Result.andThen_ok, List.map_toArray, List.map_cons, List.map_nil, hx, hy, hr]
  · unfold OwnSws
    rw [List.length_append, show cellsS (p ++ q) = cellsS p ++ cellsS q by simp [cellsS]]
    exact g1
  · intro e
    have := (g3.1 e).1
    cases this
/-- A list of one switch, to be read. -/
theorem oneF_own {w : World} {b : Nat} {s : Sw} (h : SwAt w b s) : OwnSws w 0 (.slice (some ⟨b, 0, none⟩) 1 1) [s] :=
  ⟨rfl, .inr ⟨b, 1, swA s, rfl, Nat.zero_le _, h, Nat.le_refl _, by decide, rfl, rfl⟩⟩
theorem emptyF_own {w : World} {g B : Nat} (h : w.heap[g]? = some (.cells #[] 77 (0, 0))) (hB : B ≤ g) : OwnSwE w B (.slice (some ⟨g, 0, none⟩) 0 0) [] :=
  ⟨⟨rfl, .inr ⟨g, 0, #[], rfl, hB, h, Nat.le_refl _, by decide, rfl, rfl⟩⟩, g, 0, rfl⟩
theorem oneF_far {w w' : World} {B g : Nat} {s : Sw} {u : Value} (h : oneF B s u w) (hg : w.heap[g]? = some (.cells #[] 77 (0, 0))) (hw : w.grownBy w' (some g)) : oneF B s u w' := by
  obtain ⟨b, h1, h2, h3⟩ := h
  refine ⟨b, h1, h2, ?_⟩
  have hne : b ≠ g := by
    intro e
    subst e
    unfold SwAt at h3
    rw [h3] at hg
    simp [swA] at hg
  unfold SwAt at h3 ⊢
  rw [hw.block b (Array.getElem?_eq_some_iff.1 h3).1 (fun e => hne (Option.some.inj e))]
  exact h3
end Go.Proofs.YtcliiefedmiokaaGreat
/-
  l06Visit of the model: a search in breadth over two lists.
-/
namespace Go.Proofs.YtcliiefedmiokaaGreat
open Go.RowKit

theorem visit_start {w w1 : World} {u : Value} {m : List (List Int)} (hu : OwnMat w1 w.heap.size w1.heap.size u m) (hb : Below w.heap.size w w1) :
    VSt w [m] [[]] (.slice (some ⟨w1.heap.size, 0, none⟩) 1 1) (.slice (some ⟨w1.heap.size + 2, 0, none⟩) 1 1) (((w1.alloc (.cells #[u] 22)).alloc (.cells #[] 77)).alloc (.cells #[.slice (some ⟨w1.heap.size + 1, 0, none⟩) 0 0] 73)) := by
  have hz := hb.size
  obtain ⟨w2, h2⟩ : ∃ w2, w2 = w1.alloc (.cells #[u] 22) := ⟨_, rfl⟩
  have a2 : Below w1.heap.size w1 w2 := by rw [h2]; exact (Below.refl _ _).alloc (Nat.le_refl _) _
  have s2 : w2.heap.size = w1.heap.size + 1 := by rw [h2]; simp
  have o2 : w2.ownsRow w.heap.size 22 1 (.slice (some ⟨w1.heap.size, 0, none⟩) 1 1) 1 [u] := by rw [h2]; exact World.ownsRow_lit w1 #[u] 1 hz (by decide) rfl
  rw [← h2]; clear h2
  obtain ⟨w3, h3⟩ : ∃ w3, w3 = w2.alloc (.cells #[] 77) := ⟨_, rfl⟩
  have a3 : Below w2.heap.size w2 w3 := by rw [h3]; exact (Below.refl _ _).alloc (Nat.le_refl _) _
  have s3 : w3.heap.size = w2.heap.size + 1 := by rw [h3]; simp
  have o3 : w3.heap[w1.heap.size + 1]? = some (.cells #[] 77 (0, 0)) := by rw [h3, ← s2]; exact heap_alloc_new w2 _
  rw [← h3]; clear h3
  have a4 := (Below.refl w3.heap.size w3).alloc (Nat.le_refl _) (.cells #[.slice (some ⟨w1.heap.size + 1, 0, none⟩) 0 0] 73)
  have o4 := World.ownsRow_lit (base := w.heap.size) (e := 73) (size := 1) w3 #[.slice (some ⟨w1.heap.size + 1, 0, none⟩) 0 0] 1 (by omega) (by decide) rfl
  rw [show w3.heap.size = w1.heap.size + 2 by omega] at o4
  have b3 := a2.trans (a3.mono a2.size)
  have b4 := b3.trans (a4.mono b3.size)
  refine ⟨⟨[u], own_below (own_below o2 a3) a4, fun i hi => ?_⟩, ⟨[.slice (some ⟨w1.heap.size + 1, 0, none⟩) 0 0], o4, fun i hi => ?_⟩, hb.trans (b4.mono hb.size)⟩
  · obtain rfl : i = 0 := by simpa using hi
    exact ⟨w1.heap.size, b4.size, ownMat_below hu b4⟩
  · obtain rfl : i = 0 := by simpa using hi
    exact ownSwE_below (emptyF_own o3 (by omega)) a4
theorem swAt_kept {w w' : World} {B e n z g : Nat} {u : Value} {s : Sw} {xs : List Value} (h : SwAt w g s) (hu : w.ownsRow B e z u n xs) (hg : w.grownBy w' u.ownBlock) (hne : 77 ≠ e) : SwAt w' g s := by
  have := grownA_kept (oneF_own h) hu hg hne
  unfold SwAt at h ⊢
  rw [hg.block g (Array.getElem?_eq_some_iff.1 h).1 ?_]
  · exact h
  · intro e'
    rcases ownA_types (oneF_own h) hu hne with h1 | h1
    · simp [Value.ownBlock] at h1
    · exact h1 e'
theorem below_push {B e n z : Nat} {w w1 w2 : World} {u : Value} {xs : List Value} (h : Below B w w1) (hu : w1.ownsRow B e z u n xs) (hg : w1.grownBy w2 u.ownBlock) (hB : B ≤ w.heap.size) : Below B w w2 := h.grown hg (Nat.le_trans hB h.size) fun k hk => (hu.lt k hk).1
end Go.Proofs.YtcliiefedmiokaaGreat
/-
  PathTo and NextTo of both answer the same.
-/
namespace Go.Proofs.YtcliiefedmiokaaGreat
open Go.RowKit

/-- What PathTo lists. -/
def PathOf (m l : List (List Int)) (P : List Sw) : Prop := (pathB m l = true → Best m l P) ∧ (pathB m l = false → P = [])
open Classical in
noncomputable def pathL (m l : List (List Int)) : List Sw := if h : ∃ P, PathOf m l P then h.choose else []
theorem pathB_node {m l : List (List Int)} (h : pathB m l = true) : ∃ R C f g, m = mkM R C f ∧ l = mkM R C g ∧ Img R C f ∧ Img R C g ∧ SameF R C f g ∧ R ≤ 4 ∧ C ≤ 4 := by
  unfold pathB at h
  rw [Bool.and_eq_true] at h
  obtain ⟨R, C, f, g, rfl, rfl, hI, hJ, hs⟩ := sameB_yes h.1
  have h2 := h.2
  rw [mkM_len, width_mk hI] at h2
  simp only [Bool.and_eq_true, decide_eq_true_eq] at h2
  exact ⟨R, C, f, g, rfl, rfl, hI, hJ, hs, h2.1, h2.2⟩
theorem path_uniq {m l : List (List Int)} {P Q : List Sw} (h1 : PathOf m l P) (h2 : PathOf m l Q) : P = Q := by
  cases h : pathB m l with
  | false => rw [h1.2 h, h2.2 h]
  | true =>
    obtain ⟨R, C, f, g, rfl, rfl, hI, -⟩ := pathB_node h
    exact best_one ⟨f, rfl, hI⟩ (h1.1 h) (h2.1 h)
theorem path_one {m l : List (List Int)} {P : List Sw} (h : PathOf m l P) : P = pathL m l := by
  have hex : ∃ P, PathOf m l P := ⟨P, h⟩
  unfold pathL
  rw [dif_pos hex]
  exact path_uniq h hex.choose_spec
theorem path_len {m l : List (List Int)} {P : List Sw} (h : PathOf m l P) : P.length ≤ 12 := by
  cases hb : pathB m l with
  | false => rw [h.2 hb]; exact Nat.zero_le _
  | true =>
    have hp := h.1 hb
    obtain ⟨R, C, f, g, rfl, rfl, hI, hJ, hs, -⟩ := pathB_node hb
    obtain ⟨q, hq, hl⟩ := joined _ f g (Nat.le_refl _) hI hJ hs
    have h1 := best_len ⟨f, rfl, hI⟩ hp hq
    have h2 : diff R C f g ≤ 25 := cnt_le _ _
    omega
theorem pathL_len (m l : List (List Int)) : (pathL m l).length ≤ 12 := by
  unfold pathL
  split
  · rename_i h; exact path_len h.choose_spec
  · exact Nat.zero_le _
def PathAns (m l : List (List Int)) (w : World) (e : Ending) (w' : World) : Prop := ∃ v, e = .returned (.tuple #[v, .bool (pathB m l)]) ∧ OwnSws w' w.heap.size v (pathL m l) ∧ Below w.heap.size w w'
theorem pathAns {m l : List (List Int)} {w w' : World} {e : Ending} (h : PathRes m l w e w') : PathAns m l w e w' := by
  obtain ⟨v, P, rfl, h1, h2, h3, h4⟩ := h
  rw [path_one ⟨h3, h4⟩] at h1
  exact ⟨v, rfl, h1, h2⟩
def NextAns (m l : List (List Int)) (w : World) (e : Ending) (w' : World) : Prop := e = .returned (.tuple #[swV ((pathL m l).headD zeroSw), .bool (!(pathL m l).isEmpty)]) ∧ Below w.heap.size w w'
theorem nextAns {m l : List (List Int)} {w w' : World} {e : Ending} (h : NextRes m l w e w') : NextAns m l w e w' := by
  obtain ⟨P, rfl, h2, h3, h4⟩ := h
  obtain rfl := path_one ⟨h3, h4⟩
  exact ⟨rfl, h2⟩
end Go.Proofs.YtcliiefedmiokaaGreat
