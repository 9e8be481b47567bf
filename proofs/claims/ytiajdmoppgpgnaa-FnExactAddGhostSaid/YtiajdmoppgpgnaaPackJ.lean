/-
  Texts of this claim, one behind the other: AghT, AghW, LawsAg.
-/
import Derived.Test.YtiajdmoppgpgnaaPackG
import Derived.Test.YtiajdmoppgpgnaaPackH
import Derived.Test.YtiajdmoppgpgnaaPackF
import Derived.Test.YtiajdmoppgpgnaaPackI
import Derived.Test.YtiajdmoppgpgnaaPackB
/-
  AddGhost of the model, the loops.
-/
namespace Go.Proofs.Ytiajdmoppgpgnaa
open Go.RowKit Go.Katz
set_option maxRecDepth 100000

theorem own_shape {w : World} {lo hi R C : Nat} {p : Value} {f : Nat → Nat → Int} (h : OwnMat w lo hi p (mkM R C f)) (hR : 0 < R) : ∃ gx xc, p = .slice (some ⟨gx, 0, none⟩) R xc := by
  obtain ⟨vs, ho, -⟩ := h
  rcases ho.2 with ⟨e, h0⟩ | ⟨g', cap', cur, e, _⟩
  · rw [mkM_len] at h0; omega
  · rw [mkM_len] at e; exact ⟨_, _, e⟩
theorem all_step {G : Nat → Nat → Int} {C2 a b : Nat} (h : ∀ i j, (i < a ∧ j < C2) ∨ (i = a ∧ j < b) → -1 ≤ G i j ∧ G i j ≤ 1) (hz : -1 ≤ G a b ∧ G a b ≤ 1) : ∀ i j, (i < a ∧ j < C2) ∨ (i = a ∧ j < b + 1) → -1 ≤ G i j ∧ G i j ≤ 1 := fun i j hij => by
  by_cases e : i = a ∧ j = b
  · obtain ⟨rfl, rfl⟩ := e; exact hz
  · exact h i j (by omega)
set_option maxHeartbeats 8000000 in
theorem specAgh_in (v : Value) (g2 o2 n cg : Nat) (a2 : Option Addr) (C2 c2 : Nat) (R C : Nat) (f : Nat → Nat → Int) (y x : Int) (w : World) (hin : InMat w v (mkM R C f)) (hI : Img R C f) (hn : 1 ≤ n ∧ n ≤ 9223372036854775807) (hC2 : C2 ≤ 9223372036854775807) (hg2 : g2 < w.heap.size) (hc2 : w.cell? ⟨g2, o2, none⟩ = some (.slice a2 C2 c2))
    (b : Bool) (hsz : ∀ w2 : World, Below w.heap.size w w2 → Calls Try.prog 81 #[.slice (some ⟨g2, o2, none⟩) n cg, .int .i64 n, .int .i64 C2, .int .i64 (-9223372036854775807), .int .i64 9223372036854775807] w2 fun e w' => e = .returned (.bool b) ∧ w2 = w')
    (G : Nat → Nat → Int) (y0 x0 : Nat) (hb : b = true) (hy : y = (y0 : Int)) (hx : x = (x0 : Int)) (hyR : y0 + n ≤ R) (hxC : x0 + C2 ≤ C) (hC21 : 1 ≤ C2) (hgin : InMat w (.slice (some ⟨g2, o2, none⟩) n cg) (mkM n C2 G))
    (res : Bool) (hres : res = okB (mkM R C (addF f G 1 y0 x0 C2 n 0))) (hsm : res = true → ∀ a b, a < n → b < C2 → -1 ≤ G a b ∧ G a b ≤ 1) :
    Calls Try.prog 39 #[v, .slice (some ⟨g2, o2, none⟩) n cg, .int .i64 y, .int .i64 x] w (MatRes2 (if res = true then mkM R C (addF f G 1 y0 x0 C2 n 0) else []) res w) := by
  have HOK := hide fun (w2 : World) (hb : Below w.heap.size w w2) => specImageOk_any v _ w2 (inMat_below hin hb)
  rw [img_ok hI] at HOK
  have HCP := hide fun (w2 : World) (hb : Below w.heap.size w w2) => l02Copy_any v R C f w2 (inMat_below hin hb) hI
  obtain ⟨g, o, cap, rfl, hg, hrow⟩ := inMat_img hin (by have := hI.r1; omega) (by have := hI.c1; omega)
  obtain ⟨g1, o1, k1, hcr, -, -⟩ := hrow 0 (by have := hI.r1; omega)
  rw [Nat.add_zero] at hcr
  have HCR := hide hcr
  have r1 := hI.r1; have r2 := hI.r2; have c1 := hI.c1; have c2' := hI.c2
  have h0I : ((n : Int) == 0) = false := by simp; omega
  have hpos : (0 : Int) < n := by omega
  have hn0 : 0 < n := by omega
  have hR0 : 0 < R := by omega
  have hRpos : (0 : Int) < R := by omega
  have lR : IntKind.i64.wrap ((R : Int) - n) = (R : Int) - n := IntWalk.i64_in _ (by omega)
  have lC : IntKind.i64.wrap ((C : Int) - C2) = (C : Int) - C2 := IntWalk.i64_in _ (by omega)
  have HCR2 := hide hc2
  subst hb
  subst hy; subst hx
  have HSZ := hide hsz
  have HY := hide (decide_eq_true (show 0 ≤ (y0 : Int) ∧ (y0 : Int) ≤ (R : Int) - n by omega))
  have HX := hide (decide_eq_true (show 0 ≤ (x0 : Int) ∧ (x0 : Int) ≤ (C : Int) - C2 by omega))
  have hzI : ((C2 : Int) == 0) = false := by simp; omega
  have hgi := inMat_img hgin (by omega) (by omega)
  obtain ⟨g3, o3, c3, he3, hg3, hrow3⟩ := hgi
  cases he3
  have HROW := hide hrow3
  have HRES := hide hres; have HSM := hide hsm
  obtain ⟨MM, hMM⟩ : ∃ MM, MM = (if res = true then mkM R C (addF f G 1 y0 x0 C2 n 0) else []) := ⟨_, rfl⟩
  have HMM := hide hMM
  rw [← hMM]
  have HZ0 := hide (addF_zero f G 1 y0 x0 C2)
  have HRW := hide (addF_row f G 1 y0 x0 C2)
  clear hsz hin hI hrow hcr hgin hrow3 hg3 hres hsm hc2 hMM
  go_enter Try.func39, Try.ntmps39
  go_upto_region 1 with fail
  obtain ⟨fs, hfs⟩ : ∃ fs : List FactP, fs = (((isV (.slice (some ⟨g, o, none⟩) R cap))) :: ((isV (.bool true))) :: ((isV (.bool false))) :: ((isV (.bool false))) :: ((isV (.slice (some ⟨g2, o2, none⟩) n cg))) :: ((isV (.int .i64 ((n : Int))))) :: ((isV (.bool false))) :: ((isV (.bool false))) :: ((isV (.bool false))) :: ((isV (.slice (some ⟨g2, o2, none⟩) n cg))) :: ((isV (.slice (some ⟨g2, o2, none⟩) n cg))) :: ((isV (.int .i64 ((n : Int))))) :: ((isV (.slice (some ⟨g2, o2, none⟩) n cg))) :: ((isV (.pointer (some ⟨g2, o2, none⟩)))) :: ((isV (.slice a2 C2 c2))) :: ((isV (.int .i64 ((C2 : Int))))) :: ((isV (.bool true))) :: ((isV (.bool false))) :: ((isV (.bool false))) :: ((isV (.bool false))) :: ((isV (.int .i64 (y0 : Int)))) :: ((isV (.slice (some ⟨g, o, none⟩) R cap))) :: ((isV (.int .i64 ((R : Int))))) :: ((isV (.slice (some ⟨g2, o2, none⟩) n cg))) :: ((isV (.int .i64 ((n : Int))))) :: ((isV (.int .i64 ((R : Int) - (n : Int))))) :: ((isV (.bool true))) :: ((isV (.bool false))) :: ((isV (.bool false))) :: ((isV (.bool false))) :: ((isV (.int .i64 (x0 : Int)))) :: ((isV (.slice (some ⟨g, o, none⟩) R cap))) :: ((isV (.pointer (some ⟨g, o, none⟩)))) :: ((isV (.slice (some ⟨g1, o1, none⟩) C k1))) :: ((isV (.int .i64 ((C : Int))))) :: ((isV (.slice (some ⟨g2, o2, none⟩) n cg))) :: ((isV (.pointer (some ⟨g2, o2, none⟩)))) :: ((isV (.slice a2 C2 c2))) :: ((isV (.int .i64 ((C2 : Int))))) :: ((isV (.int .i64 ((C : Int) - (C2 : Int))))) :: ((isV (.bool true))) :: ((isV (.bool false))) :: ((isV (.bool false))) :: ((isV (.bool false))) :: ((isV (.slice (some ⟨g2, o2, none⟩) n cg))) :: ((isV (.pointer (some ⟨g2, o2, none⟩)))) :: ((isV (.slice a2 C2 c2))) :: ((isV (.int .i64 ((C2 : Int))))) :: ((isV (.bool false))) :: []) := ⟨_, rfl⟩
  have hst : ∀ f ∈ fs, StableP f := by
    rw [hfs]; intro f hf
    simp only [List.mem_cons, List.not_mem_nil, or_false] at hf
    rcases hf with rfl | rfl | rfl | rfl | rfl | rfl | rfl | rfl | rfl | rfl | rfl | rfl | rfl | rfl | rfl | rfl | rfl | rfl | rfl | rfl | rfl | rfl | rfl | rfl | rfl | rfl | rfl | rfl | rfl | rfl | rfl | rfl | rfl | rfl | rfl | rfl | rfl | rfl | rfl | rfl | rfl | rfl | rfl | rfl | rfl | rfl | rfl | rfl | rfl <;> exact stable_v _
  subst hfs
  refine wp_region_g (S := fun w2 => Below w.heap.size w w2) (((isV (.slice (some ⟨g, o, none⟩) R cap))) :: ((isV (.bool true))) :: ((isV (.bool false))) :: ((isV (.bool false))) :: ((isV (.slice (some ⟨g2, o2, none⟩) n cg))) :: ((isV (.int .i64 ((n : Int))))) :: ((isV (.bool false))) :: ((isV (.bool false))) :: ((isV (.bool false))) :: ((isV (.slice (some ⟨g2, o2, none⟩) n cg))) :: ((isV (.slice (some ⟨g2, o2, none⟩) n cg))) :: ((isV (.int .i64 ((n : Int))))) :: ((isV (.slice (some ⟨g2, o2, none⟩) n cg))) :: ((isV (.pointer (some ⟨g2, o2, none⟩)))) :: ((isV (.slice a2 C2 c2))) :: ((isV (.int .i64 ((C2 : Int))))) :: ((isV (.bool true))) :: ((isV (.bool false))) :: ((isV (.bool false))) :: ((isV (.bool false))) :: ((isV (.int .i64 (y0 : Int)))) :: ((isV (.slice (some ⟨g, o, none⟩) R cap))) :: ((isV (.int .i64 ((R : Int))))) :: ((isV (.slice (some ⟨g2, o2, none⟩) n cg))) :: ((isV (.int .i64 ((n : Int))))) :: ((isV (.int .i64 ((R : Int) - (n : Int))))) :: ((isV (.bool true))) :: ((isV (.bool false))) :: ((isV (.bool false))) :: ((isV (.bool false))) :: ((isV (.int .i64 (x0 : Int)))) :: ((isV (.slice (some ⟨g, o, none⟩) R cap))) :: ((isV (.pointer (some ⟨g, o, none⟩)))) :: ((isV (.slice (some ⟨g1, o1, none⟩) C k1))) :: ((isV (.int .i64 ((C : Int))))) :: ((isV (.slice (some ⟨g2, o2, none⟩) n cg))) :: ((isV (.pointer (some ⟨g2, o2, none⟩)))) :: ((isV (.slice a2 C2 c2))) :: ((isV (.int .i64 ((C2 : Int))))) :: ((isV (.int .i64 ((C : Int) - (C2 : Int))))) :: ((isV (.bool true))) :: ((isV (.bool false))) :: ((isV (.bool false))) :: ((isV (.bool false))) :: ((isV (.slice (some ⟨g2, o2, none⟩) n cg))) :: ((isV (.pointer (some ⟨g2, o2, none⟩)))) :: ((isV (.slice a2 C2 c2))) :: ((isV (.int .i64 ((C2 : Int))))) :: ((isV (.bool false))) :: []) [(0, .slice (some ⟨g, o, none⟩) R cap), (1, .slice (some ⟨g2, o2, none⟩) n cg), (2, .int .i64 (y0 : Int)), (3, .int .i64 (x0 : Int))] _ _ 49 (by kernel_rfl) rfl rfl (by kernel_rfl) (by kernel_rfl) rfl (by kernel_rfl) ?base (below_drew (Below.refl _ _)) ?ob rfl ?fin
  case base =>
    intro t v ht
    simp only [List.lookup_cons, List.lookup_nil] at ht
    repeat' split at ht
    all_goals first | (cases ht; done) | (obtain rfl := Option.some.inj ht; rename_i hh; obtain rfl := eq_of_beq hh; rfl)
  case ob =>
    exact ⟨obg_of rfl (obt_move (.slice (some ⟨g, o, none⟩) R cap) rfl rfl rfl (srt_b 0 rfl)),
      obg_of rfl (obt_call hst [.slice (some ⟨g, o, none⟩) R cap] rfl Try.func80 (by kernel_rfl) (by kernel_rfl) rfl ⟨(srt_j 0 rfl (by kernel_rfl) rfl), trivial⟩ (fun w2 hS => (HOK.out w2 hS).mono fun e w3 ⟨he, hw⟩ => ⟨_, he, hw ▸ hS, hw ▸ Below.refl _ _, rfl⟩)),
      obg_of rfl (obt_one (.bool false) rfl rfl (srt_j 1 rfl (by kernel_rfl) rfl) (fun ρ w2 hS hx => by go_simp)),
      obg_of rfl (obt_move (.bool false) rfl rfl rfl (srt_j 2 rfl (by kernel_rfl) rfl)),
      obg_yes 3 rfl rfl (by kernel_rfl) rfl (obt_move (.slice (some ⟨g2, o2, none⟩) n cg) rfl rfl rfl (srt_b 1 rfl)),
      obg_yes 3 rfl rfl (by kernel_rfl) rfl (obt_one (.int .i64 ((n : Int))) rfl rfl (srt_j 4 rfl (by kernel_rfl) rfl) (fun ρ w2 hS hx => by go_simp)),
      obg_yes 3 rfl rfl (by kernel_rfl) rfl (obt_two (.bool false) rfl rfl (srt_j 5 rfl (by kernel_rfl) rfl) (srt_c (v := .int .i64 0)) (fun ρ w2 hS hx hy => by go_simp)),
      obg_of rfl (obt_pick_f (.bool false) rfl rfl rfl (srt_j 3 rfl (by kernel_rfl) rfl) (srt_j 6 rfl (by kernel_rfl) rfl)),
      obg_of rfl (obt_move (.bool false) rfl rfl rfl (srt_j 7 rfl (by kernel_rfl) rfl)),
      obg_yes 8 rfl rfl (by kernel_rfl) rfl (obt_move (.slice (some ⟨g2, o2, none⟩) n cg) rfl rfl rfl (srt_b 1 rfl)),
      obg_yes 8 rfl rfl (by kernel_rfl) rfl (obt_move (.slice (some ⟨g2, o2, none⟩) n cg) rfl rfl rfl (srt_b 1 rfl)),
      obg_yes 8 rfl rfl (by kernel_rfl) rfl (obt_one (.int .i64 ((n : Int))) rfl rfl (srt_j 10 rfl (by kernel_rfl) rfl) (fun ρ w2 hS hx => by go_simp)),
      obg_yes 8 rfl rfl (by kernel_rfl) rfl (obt_move (.slice (some ⟨g2, o2, none⟩) n cg) rfl rfl rfl (srt_b 1 rfl)),
      obg_yes 8 rfl rfl (by kernel_rfl) rfl (obt_two (.pointer (some ⟨g2, o2, none⟩)) rfl rfl (srt_j 12 rfl (by kernel_rfl) rfl) (srt_c (v := .int .i64 0)) (fun ρ w2 hS hx hy => by go_simp)),
      obg_yes 8 rfl rfl (by kernel_rfl) rfl (obt_one (.slice a2 C2 c2) rfl rfl (srt_j 13 rfl (by kernel_rfl) rfl) (fun ρ w2 hS hx => by have hc := below_cell hS hg2 HCR2.out; go_simp)),
      obg_yes 8 rfl rfl (by kernel_rfl) rfl (obt_one (.int .i64 ((C2 : Int))) rfl rfl (srt_j 14 rfl (by kernel_rfl) rfl) (fun ρ w2 hS hx => by go_simp)),
      obg_yes 8 rfl rfl (by kernel_rfl) rfl (obt_call hst [.slice (some ⟨g2, o2, none⟩) n cg, .int .i64 ((n : Int)), .int .i64 ((C2 : Int)), .int .i64 (-9223372036854775807), .int .i64 9223372036854775807] rfl Try.func81 (by kernel_rfl) (by kernel_rfl) rfl ⟨(srt_j 9 rfl (by kernel_rfl) rfl), (srt_j 11 rfl (by kernel_rfl) rfl), (srt_j 15 rfl (by kernel_rfl) rfl), (srt_c (v := .int .i64 (-9223372036854775807))), (srt_c (v := .int .i64 9223372036854775807)), trivial⟩ (fun w2 hS => (HSZ.out w2 hS).mono fun e w3 ⟨he, hw⟩ => ⟨_, he, hw ▸ hS, hw ▸ Below.refl _ _, rfl⟩)),
      obg_yes 8 rfl rfl (by kernel_rfl) rfl (obt_one (.bool false) rfl rfl (srt_j 16 rfl (by kernel_rfl) rfl) (fun ρ w2 hS hx => by go_simp)),
      obg_of rfl (obt_pick_f (.bool false) rfl rfl rfl (srt_j 8 rfl (by kernel_rfl) rfl) (srt_j 17 rfl (by kernel_rfl) rfl)),
      obg_of rfl (obt_move (.bool false) rfl rfl rfl (srt_j 18 rfl (by kernel_rfl) rfl)),
      obg_yes 19 rfl rfl (by kernel_rfl) rfl (obt_move (.int .i64 (y0 : Int)) rfl rfl rfl (srt_b 2 rfl)),
      obg_yes 19 rfl rfl (by kernel_rfl) rfl (obt_move (.slice (some ⟨g, o, none⟩) R cap) rfl rfl rfl (srt_b 0 rfl)),
      obg_yes 19 rfl rfl (by kernel_rfl) rfl (obt_one (.int .i64 ((R : Int))) rfl rfl (srt_j 21 rfl (by kernel_rfl) rfl) (fun ρ w2 hS hx => by go_simp)),
      obg_yes 19 rfl rfl (by kernel_rfl) rfl (obt_move (.slice (some ⟨g2, o2, none⟩) n cg) rfl rfl rfl (srt_b 1 rfl)),
      obg_yes 19 rfl rfl (by kernel_rfl) rfl (obt_one (.int .i64 ((n : Int))) rfl rfl (srt_j 23 rfl (by kernel_rfl) rfl) (fun ρ w2 hS hx => by go_simp)),
      obg_yes 19 rfl rfl (by kernel_rfl) rfl (obt_two (.int .i64 ((R : Int) - (n : Int))) rfl rfl (srt_j 22 rfl (by kernel_rfl) rfl) (srt_j 24 rfl (by kernel_rfl) rfl) (fun ρ w2 hS hx hy => by go_simp)),
      obg_yes 19 rfl rfl (by kernel_rfl) rfl (obt_call hst [.int .i64 (y0 : Int), .int .i64 0, .int .i64 ((R : Int) - (n : Int))] rfl Try.func57 (by kernel_rfl) (by kernel_rfl) rfl ⟨(srt_j 20 rfl (by kernel_rfl) rfl), (srt_c (v := .int .i64 0)), (srt_j 25 rfl (by kernel_rfl) rfl), trivial⟩ (fun w2 hS => (l01In_any (y0 : Int) 0 ((R : Int) - n) w2).mono fun e w3 ⟨he, hw⟩ => ⟨_, he.trans (by rw [HY.out]), hw ▸ hS, hw ▸ Below.refl _ _, rfl⟩)),
      obg_yes 19 rfl rfl (by kernel_rfl) rfl (obt_one (.bool false) rfl rfl (srt_j 26 rfl (by kernel_rfl) rfl) (fun ρ w2 hS hx => by go_simp)),
      obg_of rfl (obt_pick_f (.bool false) rfl rfl rfl (srt_j 19 rfl (by kernel_rfl) rfl) (srt_j 27 rfl (by kernel_rfl) rfl)),
      obg_of rfl (obt_move (.bool false) rfl rfl rfl (srt_j 28 rfl (by kernel_rfl) rfl)),
      obg_yes 29 rfl rfl (by kernel_rfl) rfl (obt_move (.int .i64 (x0 : Int)) rfl rfl rfl (srt_b 3 rfl)),
      obg_yes 29 rfl rfl (by kernel_rfl) rfl (obt_move (.slice (some ⟨g, o, none⟩) R cap) rfl rfl rfl (srt_b 0 rfl)),
      obg_yes 29 rfl rfl (by kernel_rfl) rfl (obt_two (.pointer (some ⟨g, o, none⟩)) rfl rfl (srt_j 31 rfl (by kernel_rfl) rfl) (srt_c (v := .int .i64 0)) (fun ρ w2 hS hx hy => by go_simp)),
      obg_yes 29 rfl rfl (by kernel_rfl) rfl (obt_one (.slice (some ⟨g1, o1, none⟩) C k1) rfl rfl (srt_j 32 rfl (by kernel_rfl) rfl) (fun ρ w2 hS hx => by have hc := below_cell hS hg HCR.out; go_simp)),
      obg_yes 29 rfl rfl (by kernel_rfl) rfl (obt_one (.int .i64 ((C : Int))) rfl rfl (srt_j 33 rfl (by kernel_rfl) rfl) (fun ρ w2 hS hx => by go_simp)),
      obg_yes 29 rfl rfl (by kernel_rfl) rfl (obt_move (.slice (some ⟨g2, o2, none⟩) n cg) rfl rfl rfl (srt_b 1 rfl)),
      obg_yes 29 rfl rfl (by kernel_rfl) rfl (obt_two (.pointer (some ⟨g2, o2, none⟩)) rfl rfl (srt_j 35 rfl (by kernel_rfl) rfl) (srt_c (v := .int .i64 0)) (fun ρ w2 hS hx hy => by go_simp)),
      obg_yes 29 rfl rfl (by kernel_rfl) rfl (obt_one (.slice a2 C2 c2) rfl rfl (srt_j 36 rfl (by kernel_rfl) rfl) (fun ρ w2 hS hx => by have hc := below_cell hS hg2 HCR2.out; go_simp)),
      obg_yes 29 rfl rfl (by kernel_rfl) rfl (obt_one (.int .i64 ((C2 : Int))) rfl rfl (srt_j 37 rfl (by kernel_rfl) rfl) (fun ρ w2 hS hx => by go_simp)),
      obg_yes 29 rfl rfl (by kernel_rfl) rfl (obt_two (.int .i64 ((C : Int) - (C2 : Int))) rfl rfl (srt_j 34 rfl (by kernel_rfl) rfl) (srt_j 38 rfl (by kernel_rfl) rfl) (fun ρ w2 hS hx hy => by go_simp)),
      obg_yes 29 rfl rfl (by kernel_rfl) rfl (obt_call hst [.int .i64 (x0 : Int), .int .i64 0, .int .i64 ((C : Int) - (C2 : Int))] rfl Try.func57 (by kernel_rfl) (by kernel_rfl) rfl ⟨(srt_j 30 rfl (by kernel_rfl) rfl), (srt_c (v := .int .i64 0)), (srt_j 39 rfl (by kernel_rfl) rfl), trivial⟩ (fun w2 hS => (l01In_any (x0 : Int) 0 ((C : Int) - C2) w2).mono fun e w3 ⟨he, hw⟩ => ⟨_, he.trans (by rw [HX.out]), hw ▸ hS, hw ▸ Below.refl _ _, rfl⟩)),
      obg_yes 29 rfl rfl (by kernel_rfl) rfl (obt_one (.bool false) rfl rfl (srt_j 40 rfl (by kernel_rfl) rfl) (fun ρ w2 hS hx => by go_simp)),
      obg_of rfl (obt_pick_f (.bool false) rfl rfl rfl (srt_j 29 rfl (by kernel_rfl) rfl) (srt_j 41 rfl (by kernel_rfl) rfl)),
      obg_of rfl (obt_move (.bool false) rfl rfl rfl (srt_j 42 rfl (by kernel_rfl) rfl)),
      obg_yes 43 rfl rfl (by kernel_rfl) rfl (obt_move (.slice (some ⟨g2, o2, none⟩) n cg) rfl rfl rfl (srt_b 1 rfl)),
      obg_yes 43 rfl rfl (by kernel_rfl) rfl (obt_two (.pointer (some ⟨g2, o2, none⟩)) rfl rfl (srt_j 44 rfl (by kernel_rfl) rfl) (srt_c (v := .int .i64 0)) (fun ρ w2 hS hx hy => by go_simp)),
      obg_yes 43 rfl rfl (by kernel_rfl) rfl (obt_one (.slice a2 C2 c2) rfl rfl (srt_j 45 rfl (by kernel_rfl) rfl) (fun ρ w2 hS hx => by have hc := below_cell hS hg2 HCR2.out; go_simp)),
      obg_yes 43 rfl rfl (by kernel_rfl) rfl (obt_one (.int .i64 ((C2 : Int))) rfl rfl (srt_j 46 rfl (by kernel_rfl) rfl) (fun ρ w2 hS hx => by go_simp)),
      obg_yes 43 rfl rfl (by kernel_rfl) rfl (obt_two (.bool false) rfl rfl (srt_j 47 rfl (by kernel_rfl) rfl) (srt_c (v := .int .i64 0)) (fun ρ w2 hS hx hy => by go_simp)),
      trivial⟩
  case fin =>
    intro a' w' h1 h2 h3 hS h4 K hK
    have ha := frame_ov rfl h1 h2 h3 ((15, .slice (some ⟨g, o, none⟩) R cap) :: (16, .bool true) :: (17, .bool false) :: (18, .bool false) :: (19, .slice (some ⟨g2, o2, none⟩) n cg) :: (20, .int .i64 ((n : Int))) :: (21, .bool false) :: (22, .bool false) :: (23, .bool false) :: (24, .slice (some ⟨g2, o2, none⟩) n cg) :: (25, .slice (some ⟨g2, o2, none⟩) n cg) :: (26, .int .i64 ((n : Int))) :: (27, .slice (some ⟨g2, o2, none⟩) n cg) :: (28, .pointer (some ⟨g2, o2, none⟩)) :: (29, .slice a2 C2 c2) :: (30, .int .i64 ((C2 : Int))) :: (31, .bool true) :: (32, .bool false) :: (33, .bool false) :: (34, .bool false) :: (35, .int .i64 (y0 : Int)) :: (36, .slice (some ⟨g, o, none⟩) R cap) :: (37, .int .i64 ((R : Int))) :: (38, .slice (some ⟨g2, o2, none⟩) n cg) :: (39, .int .i64 ((n : Int))) :: (40, .int .i64 ((R : Int) - (n : Int))) :: (41, .bool true) :: (42, .bool false) :: (43, .bool false) :: (44, .bool false) :: (45, .int .i64 (x0 : Int)) :: (46, .slice (some ⟨g, o, none⟩) R cap) :: (47, .pointer (some ⟨g, o, none⟩)) :: (48, .slice (some ⟨g1, o1, none⟩) C k1) :: (49, .int .i64 ((C : Int))) :: (50, .slice (some ⟨g2, o2, none⟩) n cg) :: (51, .pointer (some ⟨g2, o2, none⟩)) :: (52, .slice a2 C2 c2) :: (53, .int .i64 ((C2 : Int))) :: (54, .int .i64 ((C : Int) - (C2 : Int))) :: (55, .bool true) :: (56, .bool false) :: (57, .bool false) :: (58, .bool false) :: (59, .slice (some ⟨g2, o2, none⟩) n cg) :: (60, .pointer (some ⟨g2, o2, none⟩)) :: (61, .slice a2 C2 c2) :: (62, .int .i64 ((C2 : Int))) :: (63, .bool false) :: (64, a'.tmps.getD 64 undef) :: []) (by kernel_rfl) ⟨h4 0 15 rfl (by decide), h4 1 16 rfl (by decide), h4 2 17 rfl (by decide), h4 3 18 rfl (by decide), h4 4 19 rfl (by decide), h4 5 20 rfl (by decide), h4 6 21 rfl (by decide), h4 7 22 rfl (by decide), h4 8 23 rfl (by decide), h4 9 24 rfl (by decide), h4 10 25 rfl (by decide), h4 11 26 rfl (by decide), h4 12 27 rfl (by decide), h4 13 28 rfl (by decide), h4 14 29 rfl (by decide), h4 15 30 rfl (by decide), h4 16 31 rfl (by decide), h4 17 32 rfl (by decide), h4 18 33 rfl (by decide), h4 19 34 rfl (by decide), h4 20 35 rfl (by decide), h4 21 36 rfl (by decide), h4 22 37 rfl (by decide), h4 23 38 rfl (by decide), h4 24 39 rfl (by decide), h4 25 40 rfl (by decide), h4 26 41 rfl (by decide), h4 27 42 rfl (by decide), h4 28 43 rfl (by decide), h4 29 44 rfl (by decide), h4 30 45 rfl (by decide), h4 31 46 rfl (by decide), h4 32 47 rfl (by decide), h4 33 48 rfl (by decide), h4 34 49 rfl (by decide), h4 35 50 rfl (by decide), h4 36 51 rfl (by decide), h4 37 52 rfl (by decide), h4 38 53 rfl (by decide), h4 39 54 rfl (by decide), h4 40 55 rfl (by decide), h4 41 56 rfl (by decide), h4 42 57 rfl (by decide), h4 43 58 rfl (by decide), h4 44 59 rfl (by decide), h4 45 60 rfl (by decide), h4 46 61 rfl (by decide), h4 47 62 rfl (by decide), h4 48 63 rfl (by decide), rfl, trivial⟩
    dsimp only [ov, List.lookup, Nat.reduceBEq, Nat.reduceAdd] at ha
    refine run_value (.bool false) (exec_pick_f (v := .bool false) rfl (h4 43 58 rfl (by decide)) (h4 48 63 rfl (by decide))) (hK (.bool false) _ ?_)
    show Exit.then _ _ Exit.normal (Act.put a' (some 64) (.bool false)) _
    rw [ha]
    generalize a'.tmps.getD 64 undef = u64
    clear ha h1 h2 h3 h4 hst hK
    have HS := hide hS
    clear hS HOK HSZ HCR HCR2 h0I hRpos lR lC hzI
    go_wp2_with ((with_reducible refine (HCP.out _ HS.out).mono ?_); rintro e w1 ⟨p, rfl, ho, hb⟩; have hp : OwnMat w1 w'.heap.size w1.heap.size p (mkM R C f) := ho; have HO := hide (ownMat_mono hp HS.out.size (Nat.le_refl _)); have HB := hide (HS.out.trans (hb.mono HS.out.size)); obtain ⟨gx, xc, rfl⟩ : ∃ gx xc, p = .slice (some ⟨gx, 0, none⟩) R xc := own_shape hp (by omega); obtain ⟨hi, hhi⟩ : ∃ hi, hi = w1.heap.size := ⟨_, rfl⟩; have HHI0 := hide (Nat.le_of_eq hhi); rw [← hhi] at HO; clear hb ho hp hhi)
    go_loopw [69] (fun i wr => ∃ a : Nat, a ≤ n ∧ i = .int .i64 a ∧ OwnMat wr w.heap.size hi (.slice (some ⟨gx, 0, none⟩) R xc) (mkM R C (addF f G 1 y0 x0 C2 a 0)) ∧ Below w.heap.size w wr ∧ hi ≤ wr.heap.size ∧ ∀ i j, i < a → j < C2 → -1 ≤ G i j ∧ G i j ≤ 1) (fun i _ => n - (intOf i).toNat)
    case atStart => exact ⟨0, Nat.zero_le _, rfl, by rw [HZ0.out]; exact HO.out, HB.out, HHI0.out, fun i j h => absurd h (Nat.not_lt_zero _)⟩
    case round =>
      clear HO HB HHI0
      obtain ⟨wo, rfl⟩ : ∃ wo, wo = wr := ⟨_, rfl⟩
      obtain ⟨a, ha, rfl, ho, hbb, hh, hall⟩ := hrel
      have HO1 := hide ho; have HB1 := hide hbb; have HH1 := hide hh; have HALL := hide hall
      clear ho hbb hh hall
      by_cases hla : a < n
      · have hlaI : (a : Int) < n := by omega
        obtain ⟨gs, os, cs, hcr, hgs, hcell⟩ := HROW.out a hla
        have hcr := below_cell HB1.out hg2 hcr
        have HCELL := hide hcell
        clear hcell
        go_wp2
        clear hcr
        go_loopw [76] (fun i wr => ∃ b : Nat, b ≤ C2 ∧ i = .int .i64 b ∧ OwnMat wr w.heap.size hi (.slice (some ⟨gx, 0, none⟩) R xc) (mkM R C (addF f G 1 y0 x0 C2 a b)) ∧ Below w.heap.size w wr ∧ hi ≤ wr.heap.size ∧ ∀ i j, (i < a ∧ j < C2) ∨ (i = a ∧ j < b) → -1 ≤ G i j ∧ G i j ≤ 1) (fun i _ => C2 - (intOf i).toNat)
        case atStart => exact ⟨0, Nat.zero_le _, rfl, HO1.out, HB1.out, HH1.out, fun i j h => HALL.out i j (by omega) (by omega)⟩
        case round =>
          clear HO1 HB1 HH1
          obtain ⟨b, hb, rfl, ho, hbw, hh, hall⟩ := hrel
          have HO2 := hide ho; have HB2 := hide hbw; have HHI := hide hh; have HALL2 := hide hall
          clear ho hbw hh hall
          by_cases hlb : b < C2
          · have hlbI : (b : Int) < C2 := by omega
            have hcx := below_cell HB2.out hgs (HCELL.out b hlb)
            by_cases hzb : -1 ≤ G a b ∧ G a b ≤ 1
            · have HZB := hide (decide_eq_true hzb)
              obtain ⟨Y, hY⟩ : ∃ Y, Y = y0 + a := ⟨_, rfl⟩
              obtain ⟨X, hX⟩ : ∃ X, X = x0 + b := ⟨_, rfl⟩
              obtain ⟨gr, rc, hcrow, hcl, hfr, hgl, hgh, hset⟩ := ownMat_cell HO2.out Y X (by omega) (by omega)
              have HSET := hide hset
              have HST := hide (addF_step f G 1 y0 x0 C2 a b hlb)
              obtain ⟨z, hz⟩ : ∃ z, z = G a b := ⟨_, rfl⟩
              obtain ⟨c, hc⟩ : ∃ c, c = addF f G 1 y0 x0 C2 a b Y X := ⟨_, rfl⟩
              obtain ⟨sv, hsv⟩ : ∃ sv, sv = IntKind.i64.wrap (c + z) := ⟨_, rfl⟩
              have hz1 : IntKind.i64.wrap (1 * z) = z := by rw [Int.one_mul]; exact IntWalk.i64_in _ (by omega)
              rw [← hY, ← hX, ← hc, ← hz, hz1, ← hsv] at HST
              rw [← hz] at hcx HZB
              rw [← hc] at hcl
              have HC1 := hide fun w' => l01In_any z (-1) 1 w'
              rw [HZB.out] at HC1
              have hyI : (y0 : Int) + (a : Int) = (Y : Int) := by omega
              have hxI : (x0 : Int) + (b : Int) = (X : Int) := by omega
              have hyRI : (Y : Int) < R := by omega
              have hxCI : (X : Int) < C := by omega
              have hyW : IntKind.i64.wrap (Y : Int) = Y := IntWalk.i64_in _ (by omega)
              have hxW : IntKind.i64.wrap (X : Int) = X := IntWalk.i64_in _ (by omega)
              have hsv2 := hsv.symm
              clear hY hX hset hz hc hsv hz1
              go_upto_region 12 with ((with_reducible refine (HC1.out _).mono ?_); rintro e w9 ⟨rfl, rfl⟩)
              obtain ⟨fs, hfs⟩ : ∃ fs : List FactP, fs = [(isV (.slice (some ⟨gx, 0, none⟩) R xc)), (isV (.int .i64 ((y0 : Int)))), (isV (.int .i64 ((a : Int)))), (isV (.int .i64 ((Y : Int)))), (isV (.pointer (some ⟨gx, Y, none⟩))), (isV (.slice (some ⟨gr, 0, none⟩) C rc)), (isV (.int .i64 ((x0 : Int)))), (isV (.int .i64 ((b : Int)))), (isV (.int .i64 ((X : Int)))), (isV (.slice (some ⟨gx, 0, none⟩) R xc)), (isV (.int .i64 ((y0 : Int)))), (isV (.int .i64 ((a : Int)))), (isV (.int .i64 ((Y : Int)))), (isV (.pointer (some ⟨gx, Y, none⟩))), (isV (.slice (some ⟨gr, 0, none⟩) C rc)), (isV (.int .i64 ((x0 : Int)))), (isV (.int .i64 ((b : Int)))), (isV (.int .i64 ((X : Int)))), (isV (.pointer (some ⟨gr, X, none⟩))), (isV (.int .i64 (c))), (isV (.int .i64 (z))), (isV (.int .i64 (sv))), (isV (.pointer (some ⟨gr, X, none⟩)))] := ⟨_, rfl⟩
              have hst : ∀ f ∈ fs, StableP f := by
                rw [hfs]; intro f hf
                simp only [List.mem_cons, List.not_mem_nil, or_false] at hf
                rcases hf with rfl | rfl | rfl | rfl | rfl | rfl | rfl | rfl | rfl | rfl | rfl | rfl | rfl | rfl | rfl | rfl | rfl | rfl | rfl | rfl | rfl | rfl | rfl <;> exact stable_v _
              subst hfs
              refine wp_region_g (S := fun w2 => w2 = wr.drew) [(isV (.slice (some ⟨gx, 0, none⟩) R xc)), (isV (.int .i64 ((y0 : Int)))), (isV (.int .i64 ((a : Int)))), (isV (.int .i64 ((Y : Int)))), (isV (.pointer (some ⟨gx, Y, none⟩))), (isV (.slice (some ⟨gr, 0, none⟩) C rc)), (isV (.int .i64 ((x0 : Int)))), (isV (.int .i64 ((b : Int)))), (isV (.int .i64 ((X : Int)))), (isV (.slice (some ⟨gx, 0, none⟩) R xc)), (isV (.int .i64 ((y0 : Int)))), (isV (.int .i64 ((a : Int)))), (isV (.int .i64 ((Y : Int)))), (isV (.pointer (some ⟨gx, Y, none⟩))), (isV (.slice (some ⟨gr, 0, none⟩) C rc)), (isV (.int .i64 ((x0 : Int)))), (isV (.int .i64 ((b : Int)))), (isV (.int .i64 ((X : Int)))), (isV (.pointer (some ⟨gr, X, none⟩))), (isV (.int .i64 (c))), (isV (.int .i64 (z))), (isV (.int .i64 (sv))), (isV (.pointer (some ⟨gr, X, none⟩)))] [(2, .int .i64 ((y0 : Int))), (3, .int .i64 ((x0 : Int))), (10, .slice (some ⟨gx, 0, none⟩) R xc), (11, .int .i64 ((a : Int))), (13, .int .i64 ((b : Int))), (14, .int .i64 (z))] _ _ 23 (by kernel_rfl) rfl rfl (by kernel_rfl) (by kernel_rfl) rfl (by kernel_rfl) ?base rfl ?ob rfl ?fin
              case base =>
                intro t v ht
                simp only [List.lookup_cons, List.lookup_nil] at ht
                repeat' split at ht
                all_goals first | (cases ht; done) | (obtain rfl := Option.some.inj ht; rename_i hh; obtain rfl := eq_of_beq hh; rfl)
              case ob =>
                exact ⟨obg_of rfl (obt_move (.slice (some ⟨gx, 0, none⟩) R xc) rfl rfl rfl (srt_b 10 rfl)),
                  obg_of rfl (obt_move (.int .i64 ((y0 : Int))) rfl rfl rfl (srt_b 2 rfl)),
                  obg_of rfl (obt_move (.int .i64 ((a : Int))) rfl rfl rfl (srt_b 11 rfl)),
                  obg_of rfl (obt_two (.int .i64 ((Y : Int))) rfl rfl (srt_j 1 rfl (by kernel_rfl) rfl) (srt_j 2 rfl (by kernel_rfl) rfl) (fun ρ w2 hS hx hy => by subst hS; go_simp)),
                  obg_of rfl (obt_two (.pointer (some ⟨gx, Y, none⟩)) rfl rfl (srt_j 0 rfl (by kernel_rfl) rfl) (srt_j 3 rfl (by kernel_rfl) rfl) (fun ρ w2 hS hx hy => by subst hS; go_simp)),
                  obg_of rfl (obt_one (.slice (some ⟨gr, 0, none⟩) C rc) rfl rfl (srt_j 4 rfl (by kernel_rfl) rfl) (fun ρ w2 hS hx => by subst hS; go_simp)),
                  obg_of rfl (obt_move (.int .i64 ((x0 : Int))) rfl rfl rfl (srt_b 3 rfl)),
                  obg_of rfl (obt_move (.int .i64 ((b : Int))) rfl rfl rfl (srt_b 13 rfl)),
                  obg_of rfl (obt_two (.int .i64 ((X : Int))) rfl rfl (srt_j 6 rfl (by kernel_rfl) rfl) (srt_j 7 rfl (by kernel_rfl) rfl) (fun ρ w2 hS hx hy => by subst hS; go_simp)),
                  obg_of rfl (obt_move (.slice (some ⟨gx, 0, none⟩) R xc) rfl rfl rfl (srt_b 10 rfl)),
                  obg_of rfl (obt_move (.int .i64 ((y0 : Int))) rfl rfl rfl (srt_b 2 rfl)),
                  obg_of rfl (obt_move (.int .i64 ((a : Int))) rfl rfl rfl (srt_b 11 rfl)),
                  obg_of rfl (obt_two (.int .i64 ((Y : Int))) rfl rfl (srt_j 10 rfl (by kernel_rfl) rfl) (srt_j 11 rfl (by kernel_rfl) rfl) (fun ρ w2 hS hx hy => by subst hS; go_simp)),
                  obg_of rfl (obt_two (.pointer (some ⟨gx, Y, none⟩)) rfl rfl (srt_j 9 rfl (by kernel_rfl) rfl) (srt_j 12 rfl (by kernel_rfl) rfl) (fun ρ w2 hS hx hy => by subst hS; go_simp)),
                  obg_of rfl (obt_one (.slice (some ⟨gr, 0, none⟩) C rc) rfl rfl (srt_j 13 rfl (by kernel_rfl) rfl) (fun ρ w2 hS hx => by subst hS; go_simp)),
                  obg_of rfl (obt_move (.int .i64 ((x0 : Int))) rfl rfl rfl (srt_b 3 rfl)),
                  obg_of rfl (obt_move (.int .i64 ((b : Int))) rfl rfl rfl (srt_b 13 rfl)),
                  obg_of rfl (obt_two (.int .i64 ((X : Int))) rfl rfl (srt_j 15 rfl (by kernel_rfl) rfl) (srt_j 16 rfl (by kernel_rfl) rfl) (fun ρ w2 hS hx hy => by subst hS; go_simp)),
                  obg_of rfl (obt_two (.pointer (some ⟨gr, X, none⟩)) rfl rfl (srt_j 14 rfl (by kernel_rfl) rfl) (srt_j 17 rfl (by kernel_rfl) rfl) (fun ρ w2 hS hx hy => by subst hS; go_simp)),
                  obg_of rfl (obt_one (.int .i64 (c)) rfl rfl (srt_j 18 rfl (by kernel_rfl) rfl) (fun ρ w2 hS hx => by subst hS; go_simp)),
                  obg_of rfl (obt_move (.int .i64 (z)) rfl rfl rfl (srt_b 14 rfl)),
                  obg_of rfl (obt_two (.int .i64 (sv)) rfl rfl (srt_j 19 rfl (by kernel_rfl) rfl) (srt_j 20 rfl (by kernel_rfl) rfl) (fun ρ w2 hS hx hy => by subst hS; go_simp)),
                  obg_of rfl (obt_two (.pointer (some ⟨gr, X, none⟩)) rfl rfl (srt_j 5 rfl (by kernel_rfl) rfl) (srt_j 8 rfl (by kernel_rfl) rfl) (fun ρ w2 hS hx hy => by subst hS; go_simp)),
                  trivial⟩
              case fin =>
                intro a' w' h1 h2 h3 hS h4 K hK
                have ha := frame_ov rfl h1 h2 h3 [(84, .slice (some ⟨gx, 0, none⟩) R xc), (85, .int .i64 ((y0 : Int))), (86, .int .i64 ((a : Int))), (87, .int .i64 ((Y : Int))), (88, .pointer (some ⟨gx, Y, none⟩)), (89, .slice (some ⟨gr, 0, none⟩) C rc), (90, .int .i64 ((x0 : Int))), (91, .int .i64 ((b : Int))), (92, .int .i64 ((X : Int))), (93, .slice (some ⟨gx, 0, none⟩) R xc), (94, .int .i64 ((y0 : Int))), (95, .int .i64 ((a : Int))), (96, .int .i64 ((Y : Int))), (97, .pointer (some ⟨gx, Y, none⟩)), (98, .slice (some ⟨gr, 0, none⟩) C rc), (99, .int .i64 ((x0 : Int))), (100, .int .i64 ((b : Int))), (101, .int .i64 ((X : Int))), (102, .pointer (some ⟨gr, X, none⟩)), (103, .int .i64 (c)), (104, .int .i64 (z)), (105, .int .i64 (sv)), (106, .pointer (some ⟨gr, X, none⟩))] (by kernel_rfl) ⟨h4 0 84 rfl (by decide), h4 1 85 rfl (by decide), h4 2 86 rfl (by decide), h4 3 87 rfl (by decide), h4 4 88 rfl (by decide), h4 5 89 rfl (by decide), h4 6 90 rfl (by decide), h4 7 91 rfl (by decide), h4 8 92 rfl (by decide), h4 9 93 rfl (by decide), h4 10 94 rfl (by decide), h4 11 95 rfl (by decide), h4 12 96 rfl (by decide), h4 13 97 rfl (by decide), h4 14 98 rfl (by decide), h4 15 99 rfl (by decide), h4 16 100 rfl (by decide), h4 17 101 rfl (by decide), h4 18 102 rfl (by decide), h4 19 103 rfl (by decide), h4 20 104 rfl (by decide), h4 21 105 rfl (by decide), h4 22 106 rfl (by decide), trivial⟩
                dsimp only [ov, List.lookup, Nat.reduceBEq, Nat.reduceAdd] at ha
                have v106 : a'.tmps.getD 106 undef = .pointer (some ⟨gr, X, none⟩) := h4 22 106 rfl (by decide)
                have v105 : a'.tmps.getD 105 undef = .int .i64 (sv) := h4 21 105 rfl (by decide)
                subst hS
                refine run_skip (exec_storeIntG (u := c) rfl v106 v105 hcl hfr) (hK undef _ ?_)
                show Exit.inBlock _ _ Exit.normal a' _
                have E1 : Hid (OwnMat (wr.drew.setCell ⟨gr, X, none⟩ (.int .i64 sv)) w.heap.size hi (.slice (some ⟨gx, 0, none⟩) R xc) (mkM R C (addF f G 1 y0 x0 C2 a (b + 1)))) := hide (by have := HSET.out sv; rw [HST.out] at this; exact this)
                have E3 : Hid (Below w.heap.size w (wr.drew.setCell ⟨gr, X, none⟩ (.int .i64 sv))) := hide ((below_drew HB2.out).setCell (by simp only; omega) _)
                have E4 : Hid (hi ≤ (wr.drew.setCell ⟨gr, X, none⟩ (.int .i64 sv)).heap.size) := hide (by simp; exact HHI.out)
                clear v105 v106
                generalize wr.drew.setCell ⟨gr, X, none⟩ (.int .i64 sv) = w9 at E1 E3 E4 ⊢
                rw [ha]
                clear ha h1 h2 h3 h4 hst hK
                go_wp2
                go_roundw
                case rel => exact ⟨b + 1, by omega, by go_num, E1.out, E3.out, E4.out, all_step HALL2.out hzb⟩
                case measure => simp [intOf]; omega
            · have HF : Hid (res = false) := hide (by
                cases hr : res with
                | false => rfl
                | true => exact absurd (HSM.out hr a b hla hlb) hzb)
              have HZB := hide (decide_eq_false hzb)
              obtain ⟨z, hz⟩ : ∃ z, z = G a b := ⟨_, rfl⟩
              rw [← hz] at hcx HZB
              have HC1 := hide fun w' => l01In_any z (-1) 1 w'
              rw [HZB.out] at HC1
              clear hz hzb
              go_wp2_with ((with_reducible refine (HC1.out _).mono ?_); rintro e w9 ⟨rfl, rfl⟩)
              go_ret2
              rw [HF.out]
              exact ⟨_, rfl, by rw [HMM.out, HF.out]; exact ownMat_nil _ _ _, HB2.out⟩
          · obtain rfl : b = C2 := by omega
            go_wp2
            go_roundw
            case rel => exact ⟨a + 1, by omega, by go_num, by rw [← HRW.out a]; exact HO2.out, HB2.out, HHI.out, fun i j h1 h2 => HALL2.out i j (by omega)⟩
            case measure => simp [intOf]; omega
      · obtain rfl : a = n := by omega
        have HI5 := hide (specImageOk_any (.slice (some ⟨gx, 0, none⟩) R xc) _ wo (inMat_own HO1.out))
        rw [← HRES.out] at HI5
        cases res with
        | true =>
          go_wp2_with ((with_reducible refine HI5.out.mono ?_); rintro e w9 ⟨rfl, rfl⟩)
          go_ret2
          exact ⟨_, rfl, by rw [HMM.out]; exact ownMat_mono HO1.out (Nat.le_refl _) HH1.out, HB1.out⟩
        | false =>
          go_wp2_with ((with_reducible refine HI5.out.mono ?_); rintro e w9 ⟨rfl, rfl⟩)
          go_ret2
          exact ⟨_, rfl, by rw [HMM.out]; exact ownMat_nil _ _ _, HB1.out⟩
end Go.Proofs.Ytiajdmoppgpgnaa
/-
  AddGhost of the model: the contract.
-/
namespace Go.Proofs.Ytiajdmoppgpgnaa
open Go.RowKit Go.Katz

theorem size_rows {g : List (List Int)} {C : Nat} (h : sizeB g g.length C (-9223372036854775807) 9223372036854775807 = true) (hC : C = widthM g) (h0 : g.length ≠ 0) (hs : sizeOk g.length C = true) : gridB g = true := by
  subst hC
  rw [sizeB, Bool.and_eq_true, List.all_eq_true] at h
  unfold gridB
  rw [decide_eq_true h0, hs, anyRow_no fun r hr => by
    have := h.2 r hr
    simp only [sizeRow, Bool.and_eq_true, beq_iff_eq] at this
    simp [this.1]]
  rfl
theorem size_no {g : List (List Int)} (hg : gridB g = true) (h : sizeB g g.length (widthM g) (-9223372036854775807) 9223372036854775807 = false) (hall : ∀ a b, a < g.length → b < widthM g → -1 ≤ elM g a b ∧ elM g a b ≤ 1) : False := by
  obtain ⟨hm, -, -⟩ := gridB_mk hg
  have : sizeB g g.length (widthM g) (-9223372036854775807) 9223372036854775807 = true := by
    rw [sizeB, beq_self_eq_true, Bool.true_and, List.all_eq_true]
    intro r hr
    rw [hm] at hr
    simp only [mkM, List.mem_map, List.mem_range] at hr
    obtain ⟨y, hy, rfl⟩ := hr
    rw [sizeRow, rowF_len, beq_self_eq_true, Bool.true_and, List.all_eq_true]
    intro z hz
    simp only [rowF, List.mem_map, List.mem_range] at hz
    obtain ⟨x, hx, rfl⟩ := hz
    have := hall y x hy hx
    exact decide_eq_true (by omega)
  rw [this] at h; cases h
theorem specAddGhost_any (v vg : Value) (m g : List (List Int)) (y x : Int) (w : World) (hin : InMat w v m) (hg : InMat w vg g) (hw : WfM g) :
    Calls Try.prog 39 #[v, vg, .int .i64 y, .int .i64 x] w (MatRes2 (aghM m g y x) (aghB m g y x) w) := by
  cases h1 : okB m with
  | false =>
    have e : aghB m g y x = false := by rw [aghB, h1]; rfl
    rw [aghM, e]
    exact specAgh_no v vg m y x w hin h1
  | true =>
    obtain ⟨hm, hR, hC⟩ := gridB_mk (okB_grid h1)
    have hin1 : InMat w v (mkM m.length (widthM m) (elM m)) := by rw [← hm]; exact hin
    have hI : Img m.length (widthM m) (elM m) := okB_elM h1
    by_cases h0 : g.length = 0
    · have e : aghB m g y x = false := by rw [aghB, gridB, decide_eq_false (by omega)]; simp
      rw [aghM, e]
      obtain ⟨ag, cg, rfl, -, -⟩ := hg
      rw [h0]
      exact specAgh_nil v ag cg _ _ _ y x w hin1 hI
    · have hg0 := hg
      obtain ⟨ag, cg, rfl, hml, hp⟩ := hg
      unfold maxLen at hml
      obtain ⟨g2, o2, rfl, hg2, hcell⟩ := hp.resolve_left h0
      obtain ⟨u, hx0, hr⟩ := hcell 0 (by omega)
      obtain ⟨a2, c2, rfl, hml2, -⟩ := hr
      unfold maxLen at hml2
      rw [Nat.add_zero, ← widthM_at (by omega)] at hx0
      rw [← widthM_at (by omega)] at hml2
      have q1 : 1 ≤ g.length ∧ g.length ≤ 9223372036854775807 := by omega
      have q2 : widthM g ≤ 9223372036854775807 := by omega
      have hsz := fun (w2 : World) (hb : Below w.heap.size w w2) => l08Size_big _ g g.length (widthM g) (-9223372036854775807) 9223372036854775807 w2 (by omega) (by omega) (inMat_below hg0 hb)
      by_cases hbad : sizeB g g.length (widthM g) (-9223372036854775807) 9223372036854775807 = false ∨ ¬ (0 ≤ y ∧ y ≤ (m.length : Int) - g.length) ∨ ¬ (0 ≤ x ∧ x ≤ (widthM m : Int) - widthM g) ∨ widthM g = 0
      · have e : aghB m g y x = false := by
          cases hh : aghB m g y x with
          | false => rfl
          | true =>
            exfalso
            have hall := fun a b (ha : a < g.length) (hb : b < widthM g) => agh_small hw hh ha hb
            simp only [aghB, Bool.and_eq_true] at hh
            obtain ⟨⟨⟨-, h2⟩, h3⟩, -⟩ := hh
            simp only [holdsB, Bool.and_eq_true, decide_eq_true_eq] at h3
            rcases hbad with hb | hb | hb | hb
            · exact size_no h2 hb fun a b ha hb => hall a b ha hb
            · omega
            · omega
            · have := (gridB_mk h2).2.2; omega
        rw [aghM, e]
        exact specAgh_out v g2 o2 g.length cg a2 (widthM g) c2 _ _ _ y x w hin1 hI q1 q2 hg2 hx0 _ hsz hbad
      · have hb1 : sizeB g g.length (widthM g) (-9223372036854775807) 9223372036854775807 = true := by
          cases hh : sizeB g g.length (widthM g) (-9223372036854775807) 9223372036854775807 with
          | false => exact absurd (.inl hh) hbad
          | true => rfl
        have hyx : (0 ≤ y ∧ y ≤ (m.length : Int) - g.length) ∧ (0 ≤ x ∧ x ≤ (widthM m : Int) - widthM g) ∧ widthM g ≠ 0 := by
          refine ⟨?_, ?_, ?_⟩
          · exact Classical.byContradiction fun h => hbad (.inr (.inl h))
          · exact Classical.byContradiction fun h => hbad (.inr (.inr (.inl h)))
          · exact fun h => hbad (.inr (.inr (.inr h)))
        obtain ⟨hy, hx, hwd⟩ := hyx
        have h2 : gridB g = true := size_rows hb1 rfl h0 (by
          have := hI.r2; have := hI.c2
          rw [sizeOk, decide_eq_true (show (1 : Int) ≤ g.length ∧ (g.length : Int) ≤ 5 by omega), decide_eq_true (show (1 : Int) ≤ widthM g ∧ (widthM g : Int) ≤ 5 by omega)]; rfl)
        obtain ⟨hgm, -, -⟩ := gridB_mk h2
        have hg1 : InMat w (.slice (some ⟨g2, o2, none⟩) g.length cg) (mkM g.length (widthM g) (elM g)) := by rw [← hgm]; exact hg0
        have h3 : holdsB m.length (widthM m) g.length (widthM g) y x = true := by
          unfold holdsB
          rw [decide_eq_true hy.1, decide_eq_true hy.2, decide_eq_true hx.1, decide_eq_true hx.2]; rfl
        have e : aghB m g y x = okB (aghS m g y x) := by rw [aghB, h1, h2, h3]; rfl
        rw [aghM, e]
        have hy2 : y = ((y.toNat : Nat) : Int) := by omega
        have hx2 : x = ((x.toNat : Nat) : Int) := by omega
        have q3 : y.toNat + g.length ≤ m.length := by omega
        have q4 : x.toNat + widthM g ≤ widthM m := by omega
        have q5 : 1 ≤ widthM g := by omega
        exact specAgh_in v g2 o2 g.length cg a2 (widthM g) c2 _ _ _ y x w hin1 hI q1 q2 hg2 hx0 _ hsz (elM g) y.toNat x.toNat hb1 hy2 hx2 q3 q4 q5 hg1 _ rfl (fun hr a b ha hb => agh_small hw (by rw [e]; exact hr) ha hb)
end Go.Proofs.Ytiajdmoppgpgnaa
/-
  The exact law on AddGhost, walked.
-/
namespace Go.Proofs.Ytiajdmoppgpgnaa
open Go.RowKit
set_option linter.unusedVariables false

set_option maxRecDepth 100000 in
set_option maxHeartbeats 4000000 in
theorem lawAddGhost_gen (a0 : Option Addr) (n0 c0 : Nat) (m0 : List (List Int)) (a1 : Option Addr) (n1 c1 : Nat) (m1 : List (List Int)) (x2 : Int) (x3 : Int) (w : World) (hin0 : InMat w (.slice a0 n0 c0) m0) (hin1 : InMat w (.slice a1 n1 c1) m1) (_ : (Lit.int .i64 x2).wf = true) (_ : (Lit.int .i64 x3).wf = true) (m_0 : List (List Int)) (b_1 : Bool) (hres0 : m_0.length + cellsM m_0 ≤ 1000000)
    (hs : ∀ (v0 v1 : Value) (w : World), InMat w v0 m0 → InMat w v1 m1 → Calls Try.prog 39 #[v0, v1, .int .i64 x2, .int .i64 x3] w (MatRes2 m_0 b_1 w))
    (hi : ∀ (v0 v1 : Value) (w : World), InMat w v0 m0 → InMat w v1 m1 → Calls Try.prog 40 #[v0, v1, .int .i64 x2, .int .i64 x3] w (MatRes2 m_0 b_1 w)) :
    Calls Try.prog 9 #[.slice a0 n0 c0, .slice a1 n1 c1, .int .i64 x2, .int .i64 x3] w fun e w' => e = .returned (.bool true) ∧ Below w.heap.size w w' := by
  have HI0 := hide hin0
  obtain ⟨a', c', he, hm0, -⟩ := hin0
  cases he
  unfold maxLen at hm0
  have HI1 := hide hin1
  obtain ⟨a', c', he, hm1, -⟩ := hin1
  cases he
  unfold maxLen at hm1
  have hbb1 : (b_1 != b_1) = false := by cases b_1 <;> rfl
  go_enter Try.func9, Try.ntmps9
  go_wp2_with fail
  refine (szIntSS_any _ m0 (1048576) _ (by omega) HI0.out).mono ?_
  rintro e w1 ⟨q0, rfl, hq0, hb⟩
  have HB1 := hide (hb)
  have s1 := hb.size
  clear hb
  rcases hq0 with rfl | ⟨hsz0, rfl⟩
  · go_wp2
    go_ret
    exact ⟨rfl, HB1.out⟩
  · skip
    have HZ0 : Hid (m0.length + cellsM m0 ≤ 1048576) := hide (by omega)
    go_wp2_with fail
    refine (szIntSS_any _ m1 (1048576 - m0.length - cellsM m0) _ (by omega) (inMat_below HI1.out HB1.out)).mono ?_
    rintro e w2 ⟨q1, rfl, hq1, hb⟩
    have HB2 := hide (HB1.out.trans (hb.mono HB1.out.size))
    have s2 := hb.size
    clear hb
    rcases hq1 with rfl | ⟨hsz1, rfl⟩
    · go_wp2
      go_ret
      exact ⟨rfl, HB2.out⟩
    · skip
      have HZ1 : Hid (m1.length + cellsM m1 ≤ 1048576) := hide (by omega)
      have HS := hide (hs); have HM := hide (hi)
      clear hs hi
      go_wp2_with fail
      refine (toIntSS_any _ m0 _ (by have := HZ0.out; omega) (inMat_below HI0.out HB2.out)).mono ?_
      rintro e w3 ⟨p0, rfl, ho, hb⟩
      have P0_3 := hide (ho)
      have HB3 := hide (HB2.out.trans (hb.mono HB2.out.size))
      have s3 := hb.size
      clear ho hb
      go_wp2_with fail
      refine (toIntSS_any _ m1 _ (by have := HZ1.out; omega) (inMat_below HI1.out HB3.out)).mono ?_
      rintro e w4 ⟨p1, rfl, ho, hb⟩
      have P0_4 := hide (ownMat_below P0_3.out hb)
      have P1_4 := hide (ho)
      have HB4 := hide (HB3.out.trans (hb.mono HB3.out.size))
      have s4 := hb.size
      clear ho hb
      go_wp2_with fail
      refine (HS.out p0 p1 _ (inMat_own P0_4.out) (inMat_own P1_4.out)).mono ?_
      rintro e w5 ⟨u0, rfl, ho, hb⟩
      have U0_5 := hide (ho)
      have HB5 := hide (HB4.out.trans (hb.mono HB4.out.size))
      have s5 := hb.size
      clear ho hb
      go_wp2_with fail
      refine (toIntSS_any _ m0 _ (by have := HZ0.out; omega) (inMat_below HI0.out HB5.out)).mono ?_
      rintro e w6 ⟨x0, rfl, ho, hb⟩
      have U0_6 := hide (ownMat_below U0_5.out hb)
      have X0_6 := hide (ho)
      have HB6 := hide (HB5.out.trans (hb.mono HB5.out.size))
      have s6 := hb.size
      clear ho hb
      go_wp2_with fail
      refine (toIntSS_any _ m1 _ (by have := HZ1.out; omega) (inMat_below HI1.out HB6.out)).mono ?_
      rintro e w7 ⟨x1, rfl, ho, hb⟩
      have U0_7 := hide (ownMat_below U0_6.out hb)
      have X0_7 := hide (ownMat_below X0_6.out hb)
      have X1_7 := hide (ho)
      have HB7 := hide (HB6.out.trans (hb.mono HB6.out.size))
      have s7 := hb.size
      clear ho hb
      go_wp2_with fail
      refine (HM.out x0 x1 _ (inMat_own X0_7.out) (inMat_own X1_7.out)).mono ?_
      rintro e w8 ⟨g0, rfl, ho, hb⟩
      have U0_8 := hide (ownMat_below U0_7.out hb)
      have X0_8 := hide (ownMat_below X0_7.out hb)
      have X1_8 := hide (ownMat_below X1_7.out hb)
      have G0_8 := hide (ho)
      have HB8 := hide (HB7.out.trans (hb.mono HB7.out.size))
      have s8 := hb.size
      clear ho hb
      go_wp2_with fail
      refine (eqIntSS_same g0 u0 m_0 _ (inMat_own G0_8.out) (inMat_own U0_8.out)).mono ?_
      rintro e w9 ⟨rfl, hb⟩
      have U0_9 := hide (ownMat_below U0_8.out hb)
      have X0_9 := hide (ownMat_below X0_8.out hb)
      have X1_9 := hide (ownMat_below X1_8.out hb)
      have G0_9 := hide (ownMat_below G0_8.out hb)
      have HB9 := hide (HB8.out.trans (hb.mono HB8.out.size))
      have s9 := hb.size
      clear hb
      go_wp2_with fail
      refine (toIntSS_any _ m0 _ (by have := HZ0.out; omega) (inMat_below HI0.out HB9.out)).mono ?_
      rintro e w10 ⟨z0, rfl, ho, hb⟩
      have U0_10 := hide (ownMat_below U0_9.out hb)
      have X0_10 := hide (ownMat_below X0_9.out hb)
      have X1_10 := hide (ownMat_below X1_9.out hb)
      have G0_10 := hide (ownMat_below G0_9.out hb)
      have Z0_10 := hide (ho)
      have HB10 := hide (HB9.out.trans (hb.mono HB9.out.size))
      have s10 := hb.size
      clear ho hb
      go_wp2_with fail
      refine (eqIntSS_same x0 z0 m0 _ (inMat_own X0_10.out) (inMat_own Z0_10.out)).mono ?_
      rintro e w11 ⟨rfl, hb⟩
      have U0_11 := hide (ownMat_below U0_10.out hb)
      have X0_11 := hide (ownMat_below X0_10.out hb)
      have X1_11 := hide (ownMat_below X1_10.out hb)
      have G0_11 := hide (ownMat_below G0_10.out hb)
      have HB11 := hide (HB10.out.trans (hb.mono HB10.out.size))
      have s11 := hb.size
      clear hb
      go_wp2_with fail
      refine (toIntSS_any _ m1 _ (by have := HZ1.out; omega) (inMat_below HI1.out HB11.out)).mono ?_
      rintro e w12 ⟨z1, rfl, ho, hb⟩
      have U0_12 := hide (ownMat_below U0_11.out hb)
      have X0_12 := hide (ownMat_below X0_11.out hb)
      have X1_12 := hide (ownMat_below X1_11.out hb)
      have G0_12 := hide (ownMat_below G0_11.out hb)
      have Z1_12 := hide (ho)
      have HB12 := hide (HB11.out.trans (hb.mono HB11.out.size))
      have s12 := hb.size
      clear ho hb
      go_wp2_with fail
      refine (eqIntSS_same x1 z1 m1 _ (inMat_own X1_12.out) (inMat_own Z1_12.out)).mono ?_
      rintro e w13 ⟨rfl, hb⟩
      have U0_13 := hide (ownMat_below U0_12.out hb)
      have X0_13 := hide (ownMat_below X0_12.out hb)
      have X1_13 := hide (ownMat_below X1_12.out hb)
      have G0_13 := hide (ownMat_below G0_12.out hb)
      have HB13 := hide (HB12.out.trans (hb.mono HB12.out.size))
      have s13 := hb.size
      clear hb
      go_wp2_with fail
      refine (markIntSS_any m0 1 _ _ x0 _ (by have := HZ0.out; omega) (by omega) X0_13.out).mono ?_
      rintro e w14 ⟨rfl, -, hwi⟩
      have U0_14 := hide (ownMat_within U0_13.out hwi (by omega))
      have X1_14 := hide (ownMat_within X1_13.out hwi (by omega))
      have G0_14 := hide (ownMat_within G0_13.out hwi (by omega))
      have HB14 := hide (HB13.out.trans (below_within hwi (by omega) HB13.out.size))
      have s14 := hwi.size
      clear hwi
      go_wp2_with fail
      refine (markIntSS_any m1 (1 + cellsM m0) _ _ x1 _ (by have := HZ1.out; omega) (by have := HZ0.out; omega) X1_14.out).mono ?_
      rintro e w15 ⟨rfl, -, hwi⟩
      have U0_15 := hide (ownMat_within U0_14.out hwi (by omega))
      have G0_15 := hide (ownMat_within G0_14.out hwi (by omega))
      have HB15 := hide (HB14.out.trans (below_within hwi (by omega) HB14.out.size))
      have s15 := hwi.size
      clear hwi
      go_wp2_with fail
      refine (eqIntSS_same g0 u0 m_0 _ (inMat_own G0_15.out) (inMat_own U0_15.out)).mono ?_
      rintro e w16 ⟨rfl, hb⟩
      have U0_16 := hide (ownMat_below U0_15.out hb)
      have G0_16 := hide (ownMat_below G0_15.out hb)
      have HB16 := hide (HB15.out.trans (hb.mono HB15.out.size))
      have s16 := hb.size
      clear hb
      go_wp2_with fail
      refine (markIntSS_any m_0 1 _ _ g0 _ (by omega) (by omega) G0_16.out).mono ?_
      rintro e w17 ⟨rfl, ho, hwi⟩
      have U0_17 := hide (ownMat_within U0_16.out hwi (by omega))
      have HB17 := hide (HB16.out.trans (below_within hwi (by omega) HB16.out.size))
      have s17 := hwi.size
      clear hwi
      have M_17 := hide (inMat_own ho); clear ho
      go_wp2_with fail
      refine (heldIntSS_any m_0 1 g0 _ (by omega) (by omega) M_17.out).mono ?_
      rintro e w18 ⟨rfl, hb⟩
      have U0_18 := hide (ownMat_below U0_17.out hb)
      have M_18 := hide (inMat_below M_17.out hb)
      have HB18 := hide (HB17.out.trans (hb.mono HB17.out.size))
      have s18 := hb.size
      clear hb
      go_wp2_with fail
      refine (toIntSS_any _ m0 _ (by have := HZ0.out; omega) (inMat_below HI0.out HB18.out)).mono ?_
      rintro e w19 ⟨y0, rfl, ho, hb⟩
      have U0_19 := hide (ownMat_below U0_18.out hb)
      have M_19 := hide (inMat_below M_18.out hb)
      have Y0_19 := hide (ho)
      have HB19 := hide (HB18.out.trans (hb.mono HB18.out.size))
      have s19 := hb.size
      clear ho hb
      go_wp2_with fail
      refine (toIntSS_any _ m1 _ (by have := HZ1.out; omega) (inMat_below HI1.out HB19.out)).mono ?_
      rintro e w20 ⟨y1, rfl, ho, hb⟩
      have U0_20 := hide (ownMat_below U0_19.out hb)
      have M_20 := hide (inMat_below M_19.out hb)
      have Y0_20 := hide (ownMat_below Y0_19.out hb)
      have Y1_20 := hide (ho)
      have HB20 := hide (HB19.out.trans (hb.mono HB19.out.size))
      have s20 := hb.size
      clear ho hb
      go_wp2_with fail
      refine (HM.out y0 y1 _ (inMat_own Y0_20.out) (inMat_own Y1_20.out)).mono ?_
      rintro e w21 ⟨h0, rfl, ho, hb⟩
      have U0_21 := hide (ownMat_below U0_20.out hb)
      have M_21 := hide (inMat_below M_20.out hb)
      have H0_21 := hide (ho)
      have HB21 := hide (HB20.out.trans (hb.mono HB20.out.size))
      have s21 := hb.size
      clear ho hb
      go_wp2_with fail
      refine (eqIntSS_same h0 u0 m_0 _ (inMat_own H0_21.out) (inMat_own U0_21.out)).mono ?_
      rintro e w22 ⟨rfl, hb⟩
      have U0_22 := hide (ownMat_below U0_21.out hb)
      have M_22 := hide (inMat_below M_21.out hb)
      have H0_22 := hide (ownMat_below H0_21.out hb)
      have HB22 := hide (HB21.out.trans (hb.mono HB21.out.size))
      have s22 := hb.size
      clear hb
      go_wp2_with fail
      refine (heldIntSS_any m_0 1 g0 _ (by omega) (by omega) M_22.out).mono ?_
      rintro e w23 ⟨rfl, hb⟩
      have M_23 := hide (inMat_below M_22.out hb)
      have HB23 := hide (HB22.out.trans (hb.mono HB22.out.size))
      have s23 := hb.size
      clear hb
      go_wp2
      go_ret
      exact ⟨rfl, HB23.out⟩

theorem inMat_ofZ {w : World} {base : Nat} {a : Addr} {len cap : Nat} {A : Nat → Option Addr} {L C : Nat → Nat} {Z : Nat → List Int} (hl : len ≤ cap) (hm : cap ≤ maxLen)
    (h : ∀ r, r < cap → w.cell? (a.add r) = some (.slice (A r) (L r) (C r)) ∧ L r ≤ C r ∧ C r ≤ maxLen ∧ (Z r).length = C r ∧ (∀ n ∈ Z r, (Lit.int .i64 n).wf = true) ∧ (A r = none → C r = 0) ∧
      ∀ a', A r = some a' → base ≤ a'.block ∧ ∀ c, c < C r → w.cell? (a'.add c) = some (.int .i64 ((Z r).getD c 0))) : InMat w (.slice (some a) len cap) ((List.range len).map fun r => (Z r).take (L r)) := by
  refine ⟨some a, cap, by simp, by simp; omega, ?_⟩
  by_cases h0 : len = 0
  · exact .inl (by simpa using h0)
  · refine .inr ?_
    obtain ⟨g, o, spot⟩ := a
    have hc := (h 0 (by omega)).1
    have hspot : spot = none := by simpa [Addr.add] using World.cell?_spot hc
    subst hspot
    refine ⟨g, o, rfl, by simpa [Addr.add] using World.block_lt_of_cell? w _ hc, fun i hi => ?_⟩
    simp only [List.length_map, List.length_range] at hi
    obtain ⟨h1, h2, h3, h4, -, h5, h6⟩ := h i (by omega)
    rw [addr_add] at h1
    refine ⟨_, h1, ?_⟩
    simp only [List.getElem_map, List.getElem_range]
    have hlen : ((Z i).take (L i)).length = L i := by rw [List.length_take]; omega
    refine ⟨A i, C i, by rw [hlen], by omega, ?_⟩
    by_cases hz : L i = 0
    · exact .inl (by omega)
    · refine .inr ?_
      cases ha : A i with
      | none => have := h5 ha; omega
      | some a' =>
        obtain ⟨-, h7⟩ := h6 a' ha
        obtain ⟨g', o', spot'⟩ := a'
        have hc' := h7 0 (by omega)
        have hspot' : spot' = none := by simpa [Addr.add] using World.cell?_spot hc'
        subst hspot'
        refine ⟨g', o', rfl, by simpa [Addr.add] using World.block_lt_of_cell? w _ hc', fun j hj => ?_⟩
        have := h7 j (by omega)
        rw [addr_add] at this
        rw [this, List.getElem_take, List.getD_eq_getElem?_getD, List.getElem?_eq_getElem (by omega)]; rfl

theorem inMat_ofW {w : World} {base : Nat} {a : Addr} {len cap : Nat} {A : Nat → Option Addr} {L C : Nat → Nat} {Z : Nat → List Int} (hl : len ≤ cap) (hm : cap ≤ maxLen)
    (h : ∀ r, r < cap → w.cell? (a.add r) = some (.slice (A r) (L r) (C r)) ∧ L r ≤ C r ∧ C r ≤ maxLen ∧ (Z r).length = C r ∧ (∀ n ∈ Z r, (Lit.int .i64 n).wf = true) ∧ (A r = none → C r = 0) ∧
      ∀ a', A r = some a' → base ≤ a'.block ∧ ∀ c, c < C r → w.cell? (a'.add c) = some (.int .i64 ((Z r).getD c 0))) : ∃ m, InMat w (.slice (some a) len cap) m ∧ WfM m := by
  refine ⟨_, inMat_ofZ hl hm h, fun r hr n hn => ?_⟩
  simp only [List.mem_map, List.mem_range] at hr
  obtain ⟨i, hi, rfl⟩ := hr
  exact (h i (by omega)).2.2.2.2.1 n (List.mem_of_mem_take hn)
theorem wfM_nil : WfM [] := fun _ h => by cases h
theorem aghM_size (m g : List (List Int)) (y x : Int) : (aghM m g y x).length + cellsM (aghM m g y x) ≤ 1000000 := by
  unfold aghM
  by_cases h : aghB m g y x = true
  · rw [if_pos h]
    simp only [aghB, Bool.and_eq_true] at h
    have hI := okB_elM h.1.1.1
    have h1 := hI.r2; have h2 := hI.c2
    unfold aghS
    rw [mkM_len, cells_mkM]
    have : m.length * widthM m ≤ 5 * 5 := Nat.mul_le_mul h1 h2
    omega
  · rw [if_neg h]; simp [cellsM]
theorem lawAddGhost_walk (a0 : Option Addr) (n0 c0 : Nat) (m0 : List (List Int)) (a1 : Option Addr) (n1 c1 : Nat) (m1 : List (List Int)) (x2 x3 : Int) (w : World) (hin0 : InMat w (.slice a0 n0 c0) m0) (hin1 : InMat w (.slice a1 n1 c1) m1 ∧ WfM m1) (h2 : (Lit.int .i64 x2).wf = true) (h3 : (Lit.int .i64 x3).wf = true) :
    Calls Try.prog 9 #[.slice a0 n0 c0, .slice a1 n1 c1, .int .i64 x2, .int .i64 x3] w fun e w' => e = .returned (.bool true) ∧ Below w.heap.size w w' :=
  lawAddGhost_gen a0 n0 c0 m0 a1 n1 c1 m1 x2 x3 w hin0 hin1.1 h2 h3 (aghM m0 m1 x2 x3) (aghB m0 m1 x2 x3) (aghM_size m0 m1 x2 x3) (fun v0 v1 w h0 h1 => specAddGhost_any v0 v1 m0 m1 x2 x3 w h0 h1 hin1.2) (fun v0 v1 w h0 h1 => implAddGhost_any v0 v1 m0 m1 x2 x3 w h0 h1)
end Go.Proofs.Ytiajdmoppgpgnaa
