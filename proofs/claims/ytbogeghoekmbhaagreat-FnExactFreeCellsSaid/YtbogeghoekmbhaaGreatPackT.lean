/-
  Texts of this claim, one behind the other: FreeP, FreeS, LawsFr.
-/
import Derived.Test.YtbogeghoekmbhaaGreatPackR
import Derived.Test.YtbogeghoekmbhaaGreatPackS
import Derived.Test.YtbogeghoekmbhaaGreatPackB
/-
  The fixed cells, counted: where all images agree, no image has the other colour.
-/
namespace Go.Proofs.YtbogeghoekmbhaaGreat
open Go.RowKit

theorem other01 {p q : Int} (h1 : p = 0 ∨ p = 1) (h2 : q = 0 ∨ q = 1) (e : ¬ p = q) : p = 1 - q := by omega
def cntM (p : Nat → Nat → Bool) (C : Nat) : Nat → Nat
  | 0 => 0
  | R + 1 => cntM p C R + cnt (p R) C
theorem cnt_not (p : Nat → Bool) : ∀ n, cnt p n + cnt (fun i => !p i) n = n
  | 0 => rfl
  | n + 1 => by
    have := cnt_not p n
    cases h : p n with
    | true => rw [cnt_yes h, cnt_no (by simp [h])]; omega
    | false => rw [cnt_no h, cnt_yes (by simp [h])]; omega
theorem cntM_not (p : Nat → Nat → Bool) (C : Nat) : ∀ R, cntM p C R + cntM (fun y x => !p y x) C R = R * C
  | 0 => by simp [cntM]
  | R + 1 => by
    have h1 := cntM_not p C R
    have h2 := cnt_not (p R) C
    rw [cntM, cntM, Nat.succ_mul]; omega
theorem cntC_congr {p q : Nat → Bool} : ∀ n, (∀ i, i < n → p i = q i) → cnt p n = cnt q n
  | 0, _ => rfl
  | n + 1, h => by
    have h1 := cntC_congr n fun i hi => h i (by omega)
    have h2 := h n (by omega)
    rw [cnt, cnt, h1, h2]
theorem cntM_congr {p q : Nat → Nat → Bool} {C : Nat} : ∀ R, (∀ y x, y < R → x < C → p y x = q y x) → cntM p C R = cntM q C R
  | 0, _ => rfl
  | R + 1, h => by
    rw [cntM, cntM, cntM_congr R fun y x hy hx => h y x (by omega) hx, cntC_congr C fun x hx => h R x (by omega) hx]
theorem atLeast_row (g : Nat → Int) : ∀ C, atLeast 0 (rowF C g) = cnt (fun x => decide (0 ≤ g x)) C := by
  intro C
  induction C with
  | zero => rfl
  | succ C ih =>
    have : rowF (C + 1) g = rowF C g ++ [g C] := by simp [rowF, List.range_succ]
    rw [this, atLeast, List.countP_append]
    have ih' : List.countP (fun x => decide (0 ≤ x)) (rowF C g) = cnt (fun x => decide (0 ≤ g x)) C := ih
    rw [ih', cnt]
    by_cases h : 0 ≤ g C <;> simp [h]
theorem atLeast_mat (C : Nat) (F : Nat → Nat → Int) : ∀ R, atLeast 0 (mkM R C F).flatten = cntM (fun y x => decide (0 ≤ F y x)) C R := by
  intro R
  induction R with
  | zero => rfl
  | succ R ih =>
    have : mkM (R + 1) C F = mkM R C F ++ [rowF C (F R)] := by simp [mkM, List.range_succ]
    rw [this, List.flatten_append, atLeast, List.countP_append]
    have ih' : List.countP (fun x => decide (0 ≤ x)) (mkM R C F).flatten = cntM (fun y x => decide (0 ≤ F y x)) C R := ih
    have h2 := atLeast_row (F R) C
    rw [atLeast] at h2
    rw [ih', cntM, List.flatten_cons, List.flatten_nil, List.append_nil, h2]
theorem fixF_keep {f : Nat → Nat → Int} {y x : Nat} : ∀ (ms : List (List (List Int))), (∀ m ∈ ms, cellI m y x = f y x) → fixF f ms y x = f y x
  | [], _ => rfl
  | m :: ms, h => by
    show fixF (frF f (cellI m)) ms y x = f y x
    have e : frF f (cellI m) y x = f y x := by rw [frF, if_pos (h m (by simp)).symm]
    rw [fixF_keep ms (fun m' hm' => by rw [e]; exact h m' (List.mem_cons_of_mem _ hm')), e]
theorem fixF_lose {f : Nat → Nat → Int} {y x : Nat} : ∀ (ms : List (List (List Int))), (∃ m ∈ ms, cellI m y x ≠ f y x) → fixF f ms y x = -1
  | [], h => by obtain ⟨m, hm, -⟩ := h; simp at hm
  | m :: ms, h => by
    show fixF (frF f (cellI m)) ms y x = -1
    by_cases e : f y x = cellI m y x
    · have e2 : frF f (cellI m) y x = f y x := by rw [frF, if_pos e]
      refine fixF_lose ms ?_
      obtain ⟨m', hm', hne⟩ := h
      rcases List.mem_cons.1 hm' with rfl | hm'
      · exact absurd e.symm hne
      · exact ⟨m', hm', by rw [e2]; exact hne⟩
    · exact fixF_free _ y x ms (by rw [frF, if_neg e])
/-- A cell of FixedCells is fixed exactly if no image with these sums has the other colour there. -/
theorem fixed_iff {R C : Nat} {f : Nat → Nat → Int} (hI : Img R C f) {y x : Nat} (hy : y < R) (hx : x < C) :
    decide (0 ≤ fixF (cellI (imgL leastCh (rowsL R C f) (rowsL C R (trM f)))) (allL (rowsL R C f) (rowsL C R (trM f))) y x) = fixB R C f y x := by
  rw [fixB_in hy hx]
  have hrl : (rowsL R C f).length = R := rows_len _ _ _
  have hcl : (rowsL C R (trM f)).length = C := rows_len _ _ _
  have hr : 1 ≤ (rowsL R C f).length ∧ (rowsL R C f).length ≤ 5 := by rw [hrl]; exact ⟨hI.r1, hI.r2⟩
  have hc : 1 ≤ (rowsL C R (trM f)).length ∧ (rowsL C R (trM f)).length ≤ 5 := by rw [hcl]; exact ⟨hI.c1, hI.c2⟩
  have hself := imgF_self hI
  have hh : HasImg (rowsL R C f) (rowsL C R (trM f)) := ⟨f, hself⟩
  have hex := exists_of_img hr hc hh
  generalize hra : rowsL R C f = r at *
  generalize hca : rowsL C R (trM f) = c at *
  obtain ⟨hl1, hl2⟩ := least_cells hex
  have hin : ∀ g, ImgF r c g → ∃ m ∈ allL r c, cellI m y x = g y x := fun g hg => ⟨_, all_complete r c hr.2 hc g hg, listF_at (by omega) (by omega)⟩
  have h01 : ∀ m ∈ allL r c, cellI m y x = 0 ∨ cellI m y x = 1 := fun m hm => (all_sound r c hr.2 hc hh m hm).2.2.1 y x (by omega) (by omega)
  have hl01 := hl2 y x (by omega) (by omega)
  have hf01 := hI.cell y x hy hx
  have hpl := place_img (r := r) (c := c) (y := y) (x := x) (1 - f y x) hr hc (by omega) (by omega) hh
  cases hp : placeOf r c y x (1 - f y x) with
  | true =>
    obtain ⟨g, hg, hgv⟩ := hpl.1 hp
    obtain ⟨m1, hm1, e1⟩ := hin g hg
    obtain ⟨m2, hm2, e2⟩ := hin f hself
    have : fixF (cellI (imgL leastCh r c)) (allL r c) y x = -1 := by
      refine fixF_lose _ ?_
      by_cases e : cellI m1 y x = cellI (imgL leastCh r c) y x
      · exact ⟨m2, hm2, by omega⟩
      · exact ⟨m1, hm1, e⟩
    rw [this]; rfl
  | false =>
    have hall : ∀ m ∈ allL r c, cellI m y x = f y x := fun m hm => by
      have h1 := h01 m hm
      by_cases e : cellI m y x = f y x
      · exact e
      · exfalso
        have h2 : cellI m y x = 1 - f y x := other01 h1 hf01 e
        have := hpl.2 ⟨cellI m, (all_sound r c hr.2 hc hh m hm).2.2, h2⟩
        rw [hp] at this; cases this
    obtain ⟨l, hl⟩ := all_first r c hr.2 hc hh
    have hle := hall (imgL leastCh r c) (by rw [hl]; simp)
    rw [fixF_keep _ fun m hm => by rw [hall m hm, hle]]
    simp; omega
end Go.Proofs.YtbogeghoekmbhaaGreat
/-
  FreeCells of both.
-/
namespace Go.Proofs.YtbogeghoekmbhaaGreat
open Go.RowKit

theorem cntC_le (p : Nat → Bool) : ∀ n, cnt p n ≤ n
  | 0 => Nat.le_refl _
  | n + 1 => by
    have := cntC_le p n
    rw [cnt]; split <;> omega
theorem cntM_le (p : Nat → Nat → Bool) (C : Nat) : ∀ R, cntM p C R ≤ R * C
  | 0 => by simp [cntM]
  | R + 1 => by
    have h1 := cntM_le p C R
    have h2 := cntC_le (p R) C
    rw [cntM, Nat.succ_mul]; omega
def freeN (R C : Nat) (f : Nat → Nat → Int) : Nat := cntM (fun (y x : Nat) => !fixB R C f (y : Int) (x : Int)) C R
set_option maxRecDepth 100000 in
set_option maxHeartbeats 1000000 in
theorem specFree_yes (v : Value) (R C : Nat) (f : Nat → Nat → Int) (w : World) (hin : InMat w v (mkM R C f)) (hI : Img R C f) :
    Calls Tryz.prog 7 #[v] w fun e w' => e = .returned (.int .i64 (freeN R C f : Nat)) ∧ Below w.heap.size w w' := by
  have HI := hide hin; have H := hide hI
  obtain ⟨g, o, c, rfl, hg, hrows⟩ := inMat_img hin (by have := hI.r1; omega) (by have := hI.c1; omega)
  have HROWS := hide hrows
  obtain ⟨p, hp⟩ : ∃ p : Nat → Nat → Bool, p = fun (y x : Nat) => !fixB R C f (y : Int) (x : Int) := ⟨_, rfl⟩
  have HP := hide hp
  have HN := hide (show freeN R C f = cntM p C R by unfold freeN; rw [hp])
  rw [HN.out]
  have hR1 := hI.r1; have hR5 := hI.r2; have hC1 := hI.c1; have hC5 := hI.c2
  have HLE := hide fun y (hy : y ≤ R) => (cntM_le p C y)
  have HLE2 := hide fun y x => cntC_le (p y) x
  clear hin hI hrows hp
  go_enter Tryz.func7, Tryz.ntmps7
  go_wp2_with fail
  refine (specImageOk_any _ (mkM R C f) _ HI.out).mono ?_
  rw [img_ok H.out]
  rintro e w1 ⟨rfl, rfl⟩
  have HB1 := hide (Below.refl w.heap.size w)
  go_wp2
  go_loopw [3, 12] (fun s i w' => ∃ y n : Nat, y ≤ R ∧ i = .int .i64 y ∧ s = .int .i64 n ∧ (n = cntM p C y ∧ n ≤ 25) ∧ Below w.heap.size w w') (fun _ i _ => R - (intOf i).toNat)
  case atStart => exact ⟨0, 0, Nat.zero_le _, rfl, rfl, ⟨rfl, by omega⟩, HB1.out⟩
  case round =>
    obtain ⟨y, n, hy, rfl, rfl, ⟨hn, hn25⟩, hb⟩ := hrel
    have HNN := hide hn; have HB := hide hb
    clear hn hb
    by_cases hlt : y < R
    · obtain ⟨g2, o2, c2, hx, -, -⟩ := HROWS.out y hlt
      have hx := below_cell HB.out hg hx
      go_wp2
      clear hx
      go_loopw [3, 19] (fun s i w' => ∃ x k : Nat, x ≤ C ∧ i = .int .i64 x ∧ s = .int .i64 k ∧ (k = n + cnt (p y) x ∧ k ≤ n + x) ∧ Below w.heap.size w w') (fun _ i _ => C - (intOf i).toNat)
      case atStart => exact ⟨0, n, Nat.zero_le _, rfl, rfl, ⟨rfl, by omega⟩, HB.out⟩
      case round =>
        obtain ⟨x, k, hxx, rfl, rfl, ⟨hk, hk25⟩, hb⟩ := hrel
        have HK := hide hk; have HBx := hide hb
        clear hk hb
        by_cases hlx : x < C
        · obtain ⟨q, hq⟩ : ∃ q, q = fixB R C f y x := ⟨_, rfl⟩
          have HQ := hide hq
          have HPQ := hide (show p y x = !q by rw [HP.out, hq])
          clear hq
          go_wp2_with fail
          refine (specIsFixed_yes _ R C f y x _ (inMat_below HI.out HBx.out) H.out).mono ?_
          rw [← HQ.out]
          rintro e w2 ⟨rfl, hb2⟩
          have HB2 := hide (HBx.out.trans (hb2.mono HBx.out.size))
          clear hb2
          cases q with
          | true =>
            go_wp2
            go_roundw
            case rel => exact ⟨x + 1, k, by omega, by go_num, rfl, ⟨by rw [cnt_no (by rw [HPQ.out]; rfl)]; exact HK.out, by omega⟩, HB2.out⟩
            case measure => simp [intOf]; omega
          | false =>
            go_wp2
            go_roundw
            case rel => exact ⟨x + 1, k + 1, by omega, by go_num, by go_num, ⟨by rw [cnt_yes (by rw [HPQ.out]; rfl), HK.out]; omega, by omega⟩, HB2.out⟩
            case measure => simp [intOf]; omega
        · obtain rfl : x = C := by omega
          have hle := HLE.out (y + 1) (by omega)
          have h25 : (y + 1) * x ≤ 25 := Nat.le_trans (Nat.mul_le_mul (show y + 1 ≤ 5 by omega) hC5) (by decide)
          have HKN := hide (show k = cntM p x (y + 1) by rw [cntM, ← HNN.out, HK.out])
          have hk26 : k ≤ 25 := by rw [HKN.out]; omega
          clear hle h25
          go_wp2
          go_roundw
          case rel => exact ⟨y + 1, k, by omega, by go_num, rfl, ⟨HKN.out, hk26⟩, HBx.out⟩
          case measure => simp [intOf]; omega
    · obtain rfl : y = R := by omega
      go_wp2
      go_ret
      exact ⟨by rw [HNN.out]; rfl, HB.out⟩

set_option maxRecDepth 100000 in
set_option maxHeartbeats 1000000 in
theorem implFree_yes (v : Value) (R C : Nat) (f : Nat → Nat → Int) (w : World) (hin : InMat w v (mkM R C f)) (hI : Img R C f) :
    Calls Tryz.prog 9 #[v] w fun e w' => e = .returned (.int .i64 (freeN R C f : Nat)) ∧ Below w.heap.size w w' := by
  have HI := hide hin; have H := hide hI
  have hrl : (rowsL R C f).length = R := rows_len _ _ _
  have hcl : (rowsL C R (trM f)).length = C := rows_len _ _ _
  have hex : existsOf (rowsL R C f) (rowsL C R (trM f)) = true := exists_of_img (by rw [hrl]; exact ⟨hI.r1, hI.r2⟩) (by rw [hcl]; exact ⟨hI.c1, hI.c2⟩) ⟨f, imgF_self hI⟩
  have HM := hide (show fixedIm (rowsL R C f) (rowsL C R (trM f)) = mkM R C (fixF (cellI (imgL leastCh (rowsL R C f) (rowsL C R (trM f)))) (allL (rowsL R C f) (rowsL C R (trM f)))) by unfold fixedIm; rw [if_pos hex, hrl, hcl])
  obtain ⟨M, hMM⟩ : ∃ M, M = fixedIm (rowsL R C f) (rowsL C R (trM f)) := ⟨_, rfl⟩
  have hML : M.length = R := by rw [hMM, HM.out, mkM_len]
  have hMR : ∀ q ∈ M, 0 < q.length ∧ q.length ≤ 5 := fun q hq => by
    rw [hMM, HM.out] at hq
    obtain ⟨y, hy, rfl⟩ := List.getElem_of_mem hq
    rw [mkM_at, rowF_len]; exact ⟨by have := hI.c1; omega, hI.c2⟩
  have hcount : atLeast 0 M.flatten + freeN R C f = R * C := by
    rw [hMM, HM.out, atLeast_mat, freeN, ← cntM_not (fun (y x : Nat) => fixB R C f (y : Int) (x : Int)) C R]
    congr 1
    exact cntM_congr R fun y x hy hx => fixed_iff hI hy hx
  have HMM := hide hMM; have HML := hide hML; have HMR := hide hMR
  obtain ⟨K, hK⟩ : ∃ K, K = atLeast 0 M.flatten := ⟨_, rfl⟩
  have HK := hide hK
  rw [← hK] at hcount
  obtain ⟨N, hN⟩ : ∃ N, N = freeN R C f := ⟨_, rfl⟩
  rw [← hN] at hcount ⊢
  have hR1 := hI.r1; have hR5 := hI.r2; have hC1 := hI.c1; have hC5 := hI.c2
  have h25 : R * C ≤ 25 := Nat.le_trans (Nat.mul_le_mul hR5 hC5) (by decide)
  have hcast : (R : Int) * (C : Int) = ((R * C : Nat) : Int) := by simp
  have hsub : ((R * C : Nat) : Int) - (K : Int) = (N : Int) := by omega
  have HRC := hide (And.intro hcast hsub)
  have hw1 : IntKind.i64.wrap ((R : Int) * (C : Int)) = ((R * C : Nat) : Int) := by rw [hcast]; exact IntWalk.i64_in _ (by omega)
  have hw2 : IntKind.i64.wrap (((R * C : Nat) : Int) - (K : Int)) = (N : Int) := by rw [hsub]; exact IntWalk.i64_in _ (by omega)
  have HW := hide (And.intro hw1 hw2)
  obtain ⟨g, o, c, rfl, hg, hrows⟩ := inMat_img hin (by omega) (by omega)
  obtain ⟨g2, o2, c2, hx, hg2, -⟩ := hrows 0 (by omega)
  rw [Nat.add_zero] at hx
  have HX := hide hx; have HG := hide hg
  generalize hQ : R * C = Q at *
  clear hin hI hrows hMM hML hMR hK hN hcount h25 hcast hsub hw1 hw2 hx hg hg2 hrl hcl hex
  go_enter Tryz.func9, Tryz.ntmps9
  go_wp2_with fail
  refine (implImageOk_any _ (mkM R C f) _ HI.out).mono ?_
  rw [img_ok H.out]
  rintro e w1 ⟨rfl, rfl⟩
  go_wp2_with fail
  obtain ⟨fs, hfs⟩ : ∃ fs : List FactP, fs = [isV (.slice (some ⟨g, o, none⟩) R c), isV (.int .i64 R), isV (.slice (some ⟨g, o, none⟩) R c), isV (.pointer (some ⟨g, o, none⟩)), isV (.slice (some ⟨g2, o2, none⟩) C c2), isV (.int .i64 C), isV (.int .i64 (Q : Nat)), isV (.slice (some ⟨g, o, none⟩) R c), ownI w.heap.size (rowsL R C f), isV (.slice (some ⟨g, o, none⟩) R c), ownI w.heap.size (rowsL C R (trM f)), rowsT w.heap.size M, isV (.int .i64 (K : Nat)), isV (.int .i64 (N : Nat))] := ⟨_, rfl⟩
  have hst : ∀ f ∈ fs, StableP f := by
    rw [hfs]; intro f hf
    simp only [List.mem_cons, List.not_mem_nil, or_false] at hf
    rcases hf with rfl | rfl | rfl | rfl | rfl | rfl | rfl | rfl | rfl | rfl | rfl | rfl | rfl | rfl <;> first | exact stable_v _ | exact stable_ownI _ _ | exact stable_rowsT _ _
  subst hfs
  have hS1 : ∀ (w2 w3 : World), Below w.heap.size w.drew w2 → Below w2.heap.size w2 w3 → Below w.heap.size w.drew w3 := fun w2 w3 h k => h.trans (k.mono h.size)
  have hS0 : ∀ w2 : World, Below w.heap.size w.drew w2 → Below w.heap.size w w2 := fun w2 h => (below_drew (Below.refl _ w)).trans h
  have hRi : (0 : Int) < R := by omega
  refine wp_region_tail (S := fun w2 => Below w.heap.size w.drew w2) [isV (.slice (some ⟨g, o, none⟩) R c), isV (.int .i64 R), isV (.slice (some ⟨g, o, none⟩) R c), isV (.pointer (some ⟨g, o, none⟩)), isV (.slice (some ⟨g2, o2, none⟩) C c2), isV (.int .i64 C), isV (.int .i64 (Q : Nat)), isV (.slice (some ⟨g, o, none⟩) R c), ownI w.heap.size (rowsL R C f), isV (.slice (some ⟨g, o, none⟩) R c), ownI w.heap.size (rowsL C R (trM f)), rowsT w.heap.size M, isV (.int .i64 (K : Nat)), isV (.int .i64 (N : Nat))] [(0, .slice (some ⟨g, o, none⟩) R c)] _ _ 14 (by kernel_rfl) rfl rfl (by kernel_rfl) (by kernel_rfl) rfl (by kernel_rfl) ?base (Below.refl _ _) ?ob rfl ?fin
  case base =>
    intro t v ht
    simp only [List.lookup_cons, List.lookup_nil] at ht
    repeat' split at ht
    all_goals first | (cases ht; done) | (obtain rfl := Option.some.inj ht; rename_i hh; obtain rfl := eq_of_beq hh; rfl)
  case ob =>
    exact ⟨obt_move (.slice (some ⟨g, o, none⟩) R c) rfl rfl rfl (srt_b 0 rfl),
      obt_one (.int .i64 R) rfl rfl (srt_j 0 rfl (by kernel_rfl) rfl) (fun ρ w2 hS hx => by go_simp),
      obt_move (.slice (some ⟨g, o, none⟩) R c) rfl rfl rfl (srt_b 0 rfl),
      obt_two (.pointer (some ⟨g, o, none⟩)) rfl rfl (srt_j 2 rfl (by kernel_rfl) rfl) (srt_c (v := .int .i64 0)) (fun ρ w2 hS hx hy => by have h1 := hRi; go_simp; intro h; omega),
      obt_one (.slice (some ⟨g2, o2, none⟩) C c2) rfl rfl (srt_j 3 rfl (by kernel_rfl) rfl) (fun ρ w2 hS hx => by have hv := below_cell (hS0 _ hS) HG.out HX.out; go_simp),
      obt_one (.int .i64 C) rfl rfl (srt_j 4 rfl (by kernel_rfl) rfl) (fun ρ w2 hS hx => by go_simp),
      obt_two (.int .i64 (Q : Nat)) rfl rfl (srt_j 1 rfl (by kernel_rfl) rfl) (srt_j 5 rfl (by kernel_rfl) rfl) (fun ρ w2 hS hx hy => by have h1 := HW.out.1; go_simp),
      obt_move (.slice (some ⟨g, o, none⟩) R c) rfl rfl rfl (srt_b 0 rfl),
      obt_call hst [.slice (some ⟨g, o, none⟩) R c] rfl Tryz.func26 (by kernel_rfl) (by kernel_rfl) rfl ⟨srt_j 7 rfl (by kernel_rfl) rfl, trivial⟩ (fun w2 hS => by
        refine (implRowSums_yes _ R C f w2 (inMat_below HI.out (hS0 _ hS)) H.out).mono ?_
        rintro e w3 ⟨u, rfl, ho, hb3⟩
        exact ⟨u, rfl, hS1 _ _ hS hb3, hb3, own_base ho hS.size⟩),
      obt_move (.slice (some ⟨g, o, none⟩) R c) rfl rfl rfl (srt_b 0 rfl),
      obt_call hst [.slice (some ⟨g, o, none⟩) R c] rfl Tryz.func27 (by kernel_rfl) (by kernel_rfl) rfl ⟨srt_j 9 rfl (by kernel_rfl) rfl, trivial⟩ (fun w2 hS => by
        refine (implColSums_yes _ R C f w2 (inMat_below HI.out (hS0 _ hS)) H.out).mono ?_
        rintro e w3 ⟨u, rfl, ho, hb3⟩
        exact ⟨u, rfl, hS1 _ _ hS hb3, hb3, own_base ho hS.size⟩),
      fun ac w2 hS hB hD K2 hK2 => ⟨.inl rfl, run_call rfl Tryz.func25 (by kernel_rfl) (by kernel_rfl) #[ac.tmps.getD 14 undef, ac.tmps.getD 16 undef] (by simp only [List.map_toArray, List.map_cons, List.map_nil]; rfl) (by
        have h14 : ownI w.heap.size (rowsL R C f) (ac.tmps.getD 14 undef) w2 := hD 8 14 rfl (by kernel_rfl)
        have h16 : ownI w.heap.size (rowsL C R (trM f)) (ac.tmps.getD 16 undef) w2 := hD 10 16 rfl (by kernel_rfl)
        refine (implFixed_any _ _ (rowsL R C f) (rowsL C R (trM f)) w2 (rowC_own h14) (rowC_own h16)).mono ?_
        rintro e w3 ⟨u, rfl, ho, hb3⟩
        rw [← HMM.out] at ho
        exact ⟨u, rfl, hK2 _ _ (hS1 _ _ hS hb3) (fun j u h => stable_all hst j u _ _ hb3 h) (matT_base (matT_own ho) hS.size)⟩)⟩,
      fun ac w2 hS hB hD K2 hK2 => ⟨.inl rfl, run_call rfl Tryz.func24 (by kernel_rfl) (by kernel_rfl) #[ac.tmps.getD 17 undef] (by simp only [List.map_toArray, List.map_cons, List.map_nil]; rfl) (by
        have h17 : rowsT w.heap.size M (ac.tmps.getD 17 undef) w2 := hD 11 17 rfl (by kernel_rfl)
        refine (countFixed_any _ M w2 (inMat_matT h17) (by rw [HML.out]; exact hR5) HMR.out).mono ?_
        rintro e w3 ⟨rfl, hb3⟩
        rw [← HK.out]
        exact ⟨_, rfl, hK2 _ _ (hS1 _ _ hS hb3) (fun j u h => stable_all hst j u _ _ hb3 h) rfl⟩)⟩,
      obt_two (.int .i64 (N : Nat)) rfl rfl (srt_j 6 rfl (by kernel_rfl) rfl) (srt_j 12 rfl (by kernel_rfl) rfl) (fun ρ w2 hS hx hy => by have h1 := HW.out.2; go_simp),
      trivial⟩
  case fin =>
    intro a' w' h1 h2 h3 hS h4 K2 hK2
    have hv : a'.eval (.tmp 19) = .int .i64 (N : Nat) := h4 13 19 rfl (by decide)
    refine tail_assign rfl hv ?_ K2 hK2
    have HBE := hide (hS0 _ hS)
    clear hst h3 h4 hK2 hS1 hv
    go_wp2
    exact bodyPost_ret (results_tmp rfl _ _ _) rfl ⟨congrArg Ending.returned (set_get (d := 2) (n := 20) h1 (by decide)), HBE.out⟩

def freeM (m : List (List Int)) : Int := if okB m = true then ((freeN m.length (widthM m) (cellM m) : Nat) : Int) else -1
theorem freeN_congr {R C : Nat} {f g : Nat → Nat → Int} (h : ∀ y x, y < R → x < C → f y x = g y x) : freeN R C f = freeN R C g :=
  cntM_congr R fun y x _ _ => by rw [fixB_congr h]
theorem freeM_mk {R C : Nat} {f : Nat → Nat → Int} (hI : Img R C f) : freeM (mkM R C f) = ((freeN R C f : Nat) : Int) := by
  unfold freeM
  rw [img_ok hI, if_pos rfl, mkM_len, width_mk hI]
  rw [freeN_congr fun y x hy hx => cell_mk R C f hy hx]
set_option maxHeartbeats 400000 in
theorem specFree_any (v : Value) (m : List (List Int)) (w : World) (hin : InMat w v m) :
    Calls Tryz.prog 7 #[v] w fun e w' => e = .returned (.int .i64 (freeM m)) ∧ Below w.heap.size w w' := by
  cases h : okB m with
  | true =>
    obtain ⟨R, C, f, rfl, hI⟩ := ok_img h
    rw [freeM_mk hI]; exact specFree_yes v R C f w hin hI
  | false =>
    have HI := hide hin; have H := hide h
    have HF := hide (show freeM m = -1 by unfold freeM; rw [h]; rfl)
    rw [HF.out]
    clear hin h
    go_enter Tryz.func7, Tryz.ntmps7
    go_wp2_with ((with_reducible refine (specImageOk_any v m _ HI.out).mono ?_); rw [H.out]; rintro e w1 ⟨rfl, rfl⟩)
    go_ret
    exact ⟨rfl, Below.refl _ _⟩
set_option maxHeartbeats 400000 in
theorem implFree_any (v : Value) (m : List (List Int)) (w : World) (hin : InMat w v m) :
    Calls Tryz.prog 9 #[v] w fun e w' => e = .returned (.int .i64 (freeM m)) ∧ Below w.heap.size w w' := by
  cases h : okB m with
  | true =>
    obtain ⟨R, C, f, rfl, hI⟩ := ok_img h
    rw [freeM_mk hI]; exact implFree_yes v R C f w hin hI
  | false =>
    have HI := hide hin; have H := hide h
    have HF := hide (show freeM m = -1 by unfold freeM; rw [h]; rfl)
    rw [HF.out]
    clear hin h
    go_enter Tryz.func9, Tryz.ntmps9
    go_wp2_with ((with_reducible refine (implImageOk_any v m _ HI.out).mono ?_); rw [H.out]; rintro e w1 ⟨rfl, rfl⟩)
    go_ret
    exact ⟨rfl, Below.refl _ _⟩
end Go.Proofs.YtbogeghoekmbhaaGreat
/-
  The exact law on FreeCells, walked.
-/
namespace Go.Proofs.YtbogeghoekmbhaaGreat
open Go.RowKit
set_option linter.unusedVariables false

set_option maxRecDepth 100000 in
set_option maxHeartbeats 4000000 in
theorem lawFreeCells_walk (a : Option Addr) (n c : Nat) (m : List (List Int)) (w : World) (hin : InMat w (.slice a n c) m) :
    Calls Tryz.prog 3 #[.slice a n c] w fun e w' => e = .returned (.bool true) ∧ Below w.heap.size w w' := by
  have HI := hide hin
  obtain ⟨val, hval⟩ : ∃ val, val = freeM m := ⟨_, rfl⟩
  have HS := hide fun v w h => specFree_any v m w h
  have HM := hide fun v w h => implFree_any v m w h
  rw [← hval] at HS HM
  clear hin hval
  go_enter Tryz.func3, Tryz.ntmps3
  have HB := hide (Below.refl w.heap.size w)
  go_wp2_with fail
  refine (szIntSS_any _ m 1048576 _ (by omega) HI.out).mono ?_
  rintro e w1 ⟨r, rfl, hr, hb⟩
  have hs1 := hb.size
  replace HB := hide (HB.out.trans (hb.mono HB.out.size))
  clear hb
  rcases hr with rfl | ⟨hsz, rfl⟩
  · go_wp2
    go_ret
    exact ⟨rfl, HB.out⟩
  · go_wp2_with fail
    refine (toIntSS_any _ m _ (by omega) (inMat_below HI.out HB.out)).mono ?_
    rintro e w2 ⟨v1, rfl, hv, hb⟩
    have hs2 := hb.size
    replace HB := hide (HB.out.trans (hb.mono HB.out.size))
    have HV1 := hide (hv)
    clear hb
    clear hv
    go_wp2_with fail
    refine (HS.out v1 _ (inMat_own HV1.out)).mono ?_
    rintro e w3 ⟨rfl, hb⟩
    have hs3 := hb.size
    replace HV1 := hide (ownMat_below HV1.out hb)
    replace HB := hide (HB.out.trans (hb.mono HB.out.size))
    clear hb
    go_wp2_with fail
    refine (toIntSS_any _ m _ (by omega) (inMat_below HI.out HB.out)).mono ?_
    rintro e w4 ⟨v2, rfl, hv, hb⟩
    have hs4 := hb.size
    replace HV1 := hide (ownMat_below HV1.out hb)
    replace HB := hide (HB.out.trans (hb.mono HB.out.size))
    have HV2 := hide (hv)
    clear hb
    clear hv
    go_wp2_with fail
    refine (HM.out v2 _ (inMat_own HV2.out)).mono ?_
    rintro e w5 ⟨rfl, hb⟩
    have hs5 := hb.size
    replace HV1 := hide (ownMat_below HV1.out hb)
    replace HV2 := hide (ownMat_below HV2.out hb)
    replace HB := hide (HB.out.trans (hb.mono HB.out.size))
    clear hb
    go_wp2_with fail
    refine (toIntSS_any _ m _ (by omega) (inMat_below HI.out HB.out)).mono ?_
    rintro e w6 ⟨v3, rfl, hv, hb⟩
    have hs6 := hb.size
    replace HV1 := hide (ownMat_below HV1.out hb)
    replace HV2 := hide (ownMat_below HV2.out hb)
    replace HB := hide (HB.out.trans (hb.mono HB.out.size))
    have HV3 := hide (hv)
    clear hb
    clear hv
    go_wp2_with fail
    refine (eqIntSS_same v2 v3 m _ (inMat_own HV2.out) (inMat_own HV3.out)).mono ?_
    rintro e w7 ⟨rfl, hb⟩
    have hs7 := hb.size
    replace HV1 := hide (ownMat_below HV1.out hb)
    replace HV2 := hide (ownMat_below HV2.out hb)
    replace HV3 := hide (ownMat_below HV3.out hb)
    replace HB := hide (HB.out.trans (hb.mono HB.out.size))
    clear hb
    go_wp2
    go_ret
    exact ⟨rfl, HB.out⟩
end Go.Proofs.YtbogeghoekmbhaaGreat
