/-
  Texts of this claim, one behind the other: AghS.
-/
import Derived.Test.YtiajdmoppgpgnaaPackG
import Derived.Test.YtiajdmoppgpgnaaPackH
import Derived.Test.YtiajdmoppgpgnaaPackF
/-
  AddGhost of the model.
-/
namespace Go.Proofs.Ytiajdmoppgpgnaa
open Go.RowKit Go.Katz
set_option maxRecDepth 100000

/-- The numbers of a matrix fit. -/
def WfM (g : List (List Int)) : Prop := ∀ r ∈ g, ∀ n ∈ r, (Lit.int .i64 n).wf = true
theorem wfM_el {g : List (List Int)} (h : WfM g) (hg : gridB g = true) {a b : Nat} (ha : a < g.length) (hb : b < widthM g) : -9223372036854775808 ≤ elM g a b ∧ elM g a b ≤ 9223372036854775807 := by
  obtain ⟨hm, -, -⟩ := gridB_mk hg
  have hmem : rowF (widthM g) (elM g a) ∈ g := by
    have : (mkM g.length (widthM g) (elM g))[a]'(by rw [mkM_len]; exact ha) ∈ mkM g.length (widthM g) (elM g) := List.getElem_mem _
    rw [mkM_at] at this
    rw [← hm] at this
    exact this
  have h2 : elM g a b ∈ rowF (widthM g) (elM g a) := by
    have : (rowF (widthM g) (elM g a))[b]'(by rw [rowF_len]; exact hb) ∈ rowF (widthM g) (elM g a) := List.getElem_mem _
    rw [rowF_at] at this
    exact this
  have := h _ hmem _ h2
  simp only [Lit.wf, Bool.and_eq_true, decide_eq_true_eq] at this
  have e1 : IntKind.i64.min = -9223372036854775808 := by decide
  have e2 : IntKind.i64.max = 9223372036854775807 := by decide
  omega
theorem img_of_ok {R C : Nat} {f : Nat → Nat → Int} (hR : 1 ≤ R ∧ R ≤ 5) (hC : 1 ≤ C ∧ C ≤ 5) (h : okB (mkM R C f) = true) : Img R C f := by
  have hI := okB_elM h
  have hw := width_mkM (C := C) (f := f) (show 0 < R by omega)
  rw [hw, mkM_len] at hI
  refine ⟨hR.1, hR.2, hC.1, hC.2, fun y x hy hx => ?_⟩
  have e : elM (mkM R C f) y x = f y x := elM_mk hy hx
  rw [← e]; exact hI.cell y x hy hx
theorem agh_small {m g : List (List Int)} {y x : Int} (hw : WfM g) (h : aghB m g y x = true) {a b : Nat} (ha : a < g.length) (hb : b < widthM g) : -1 ≤ elM g a b ∧ elM g a b ≤ 1 := by
  simp only [aghB, Bool.and_eq_true] at h
  obtain ⟨⟨⟨h1, h2⟩, h3⟩, h4⟩ := h
  have hwf := wfM_el hw h2 ha hb
  have hI := okB_elM h1
  have hI2 : Img m.length (widthM m) (aghF m g y x) := img_of_ok ⟨hI.r1, hI.r2⟩ ⟨hI.c1, hI.c2⟩ h4
  simp only [holdsB, Bool.and_eq_true, decide_eq_true_eq] at h3
  have hy : y.toNat + a < m.length := by omega
  have hx : x.toNat + b < widthM m := by omega
  have hc := hI2.cell _ _ hy hx
  have hf := hI.cell _ _ hy hx
  unfold aghF at hc
  rw [addF_val, if_pos (by omega), show y.toNat + a - y.toNat = a by omega, show x.toNat + b - x.toNat = b by omega] at hc
  generalize elM g a b = q at hwf hc ⊢
  generalize elM m (y.toNat + a) (x.toNat + b) = p at hf hc
  rw [Int.one_mul, IntKind.wrap_i64, IntKind.wrap_i64] at hc
  omega

set_option maxHeartbeats 4000000 in
theorem specAgh_no (v vg : Value) (m : List (List Int)) (y x : Int) (w : World) (hin : InMat w v m) (h : okB m = false) :
    Calls Try.prog 39 #[v, vg, .int .i64 y, .int .i64 x] w (MatRes2 [] false w) := by
  have HOK := hide fun (w2 : World) (hb : Below w.heap.size w w2) => specImageOk_any v m w2 (inMat_below hin hb)
  rw [h] at HOK
  clear hin h
  go_enter Try.func39, Try.ntmps39
  go_upto_region 1 with fail
  obtain ⟨fs, hfs⟩ : ∃ fs : List FactP, fs = (((isV (v))) :: ((isV (.bool false))) :: ((isV (.bool true))) :: ((isV (.bool true))) :: ((isV (undef))) :: ((isV (undef))) :: ((isV (undef))) :: ((isV (.bool true))) :: ((isV (.bool true))) :: ((isV (undef))) :: ((isV (undef))) :: ((isV (undef))) :: ((isV (undef))) :: ((isV (undef))) :: ((isV (undef))) :: ((isV (undef))) :: ((isV (undef))) :: ((isV (undef))) :: ((isV (.bool true))) :: ((isV (.bool true))) :: ((isV (undef))) :: ((isV (undef))) :: ((isV (undef))) :: ((isV (undef))) :: ((isV (undef))) :: ((isV (undef))) :: ((isV (undef))) :: ((isV (undef))) :: ((isV (.bool true))) :: ((isV (.bool true))) :: ((isV (undef))) :: ((isV (undef))) :: ((isV (undef))) :: ((isV (undef))) :: ((isV (undef))) :: ((isV (undef))) :: ((isV (undef))) :: ((isV (undef))) :: ((isV (undef))) :: ((isV (undef))) :: ((isV (undef))) :: ((isV (undef))) :: ((isV (.bool true))) :: ((isV (.bool true))) :: ((isV (undef))) :: ((isV (undef))) :: ((isV (undef))) :: ((isV (undef))) :: ((isV (undef))) :: []) := ⟨_, rfl⟩
  have hst : ∀ f ∈ fs, StableP f := by
    rw [hfs]; intro f hf
    simp only [List.mem_cons, List.not_mem_nil, or_false] at hf
    rcases hf with rfl | rfl | rfl | rfl | rfl | rfl | rfl | rfl | rfl | rfl | rfl | rfl | rfl | rfl | rfl | rfl | rfl | rfl | rfl | rfl | rfl | rfl | rfl | rfl | rfl | rfl | rfl | rfl | rfl | rfl | rfl | rfl | rfl | rfl | rfl | rfl | rfl | rfl | rfl | rfl | rfl | rfl | rfl | rfl | rfl | rfl | rfl | rfl | rfl <;> exact stable_v _
  subst hfs
  refine wp_region_g (S := fun w2 => Below w.heap.size w w2) (((isV (v))) :: ((isV (.bool false))) :: ((isV (.bool true))) :: ((isV (.bool true))) :: ((isV (undef))) :: ((isV (undef))) :: ((isV (undef))) :: ((isV (.bool true))) :: ((isV (.bool true))) :: ((isV (undef))) :: ((isV (undef))) :: ((isV (undef))) :: ((isV (undef))) :: ((isV (undef))) :: ((isV (undef))) :: ((isV (undef))) :: ((isV (undef))) :: ((isV (undef))) :: ((isV (.bool true))) :: ((isV (.bool true))) :: ((isV (undef))) :: ((isV (undef))) :: ((isV (undef))) :: ((isV (undef))) :: ((isV (undef))) :: ((isV (undef))) :: ((isV (undef))) :: ((isV (undef))) :: ((isV (.bool true))) :: ((isV (.bool true))) :: ((isV (undef))) :: ((isV (undef))) :: ((isV (undef))) :: ((isV (undef))) :: ((isV (undef))) :: ((isV (undef))) :: ((isV (undef))) :: ((isV (undef))) :: ((isV (undef))) :: ((isV (undef))) :: ((isV (undef))) :: ((isV (undef))) :: ((isV (.bool true))) :: ((isV (.bool true))) :: ((isV (undef))) :: ((isV (undef))) :: ((isV (undef))) :: ((isV (undef))) :: ((isV (undef))) :: []) [(0, v)] _ _ 49 (by kernel_rfl) rfl rfl (by kernel_rfl) (by kernel_rfl) rfl (by kernel_rfl) ?base (below_drew (Below.refl _ _)) ?ob rfl ?fin
  case base =>
    intro t v ht
    simp only [List.lookup_cons, List.lookup_nil] at ht
    repeat' split at ht
    all_goals first | (cases ht; done) | (obtain rfl := Option.some.inj ht; rename_i hh; obtain rfl := eq_of_beq hh; rfl)
  case ob =>
    exact ⟨obg_of rfl (obt_move (v) rfl rfl rfl (srt_b 0 rfl)),
      obg_of rfl (obt_call hst [v] rfl Try.func80 (by kernel_rfl) (by kernel_rfl) rfl ⟨(srt_j 0 rfl (by kernel_rfl) rfl), trivial⟩ (fun w2 hS => (HOK.out w2 hS).mono fun e w3 ⟨he, hw⟩ => ⟨_, he, hw ▸ hS, hw ▸ Below.refl _ _, rfl⟩)),
      obg_of rfl (obt_one (.bool true) rfl rfl (srt_j 1 rfl (by kernel_rfl) rfl) (fun ρ w2 hS hx => by go_simp)),
      obg_of rfl (obt_move (.bool true) rfl rfl rfl (srt_j 2 rfl (by kernel_rfl) rfl)),
      obg_no 3 rfl rfl (by kernel_rfl) rfl rfl,
      obg_no 3 rfl rfl (by kernel_rfl) rfl rfl,
      obg_no 3 rfl rfl (by kernel_rfl) rfl rfl,
      obg_of rfl (obt_pick_t (.bool true) rfl rfl rfl (srt_j 3 rfl (by kernel_rfl) rfl) (srt_c (v := .bool true))),
      obg_of rfl (obt_move (.bool true) rfl rfl rfl (srt_j 7 rfl (by kernel_rfl) rfl)),
      obg_no 8 rfl rfl (by kernel_rfl) rfl rfl,
      obg_no 8 rfl rfl (by kernel_rfl) rfl rfl,
      obg_no 8 rfl rfl (by kernel_rfl) rfl rfl,
      obg_no 8 rfl rfl (by kernel_rfl) rfl rfl,
      obg_no 8 rfl rfl (by kernel_rfl) rfl rfl,
      obg_no 8 rfl rfl (by kernel_rfl) rfl rfl,
      obg_no 8 rfl rfl (by kernel_rfl) rfl rfl,
      obg_no 8 rfl rfl (by kernel_rfl) rfl rfl,
      obg_no 8 rfl rfl (by kernel_rfl) rfl rfl,
      obg_of rfl (obt_pick_t (.bool true) rfl rfl rfl (srt_j 8 rfl (by kernel_rfl) rfl) (srt_c (v := .bool true))),
      obg_of rfl (obt_move (.bool true) rfl rfl rfl (srt_j 18 rfl (by kernel_rfl) rfl)),
      obg_no 19 rfl rfl (by kernel_rfl) rfl rfl,
      obg_no 19 rfl rfl (by kernel_rfl) rfl rfl,
      obg_no 19 rfl rfl (by kernel_rfl) rfl rfl,
      obg_no 19 rfl rfl (by kernel_rfl) rfl rfl,
      obg_no 19 rfl rfl (by kernel_rfl) rfl rfl,
      obg_no 19 rfl rfl (by kernel_rfl) rfl rfl,
      obg_no 19 rfl rfl (by kernel_rfl) rfl rfl,
      obg_no 19 rfl rfl (by kernel_rfl) rfl rfl,
      obg_of rfl (obt_pick_t (.bool true) rfl rfl rfl (srt_j 19 rfl (by kernel_rfl) rfl) (srt_c (v := .bool true))),
      obg_of rfl (obt_move (.bool true) rfl rfl rfl (srt_j 28 rfl (by kernel_rfl) rfl)),
      obg_no 29 rfl rfl (by kernel_rfl) rfl rfl,
      obg_no 29 rfl rfl (by kernel_rfl) rfl rfl,
      obg_no 29 rfl rfl (by kernel_rfl) rfl rfl,
      obg_no 29 rfl rfl (by kernel_rfl) rfl rfl,
      obg_no 29 rfl rfl (by kernel_rfl) rfl rfl,
      obg_no 29 rfl rfl (by kernel_rfl) rfl rfl,
      obg_no 29 rfl rfl (by kernel_rfl) rfl rfl,
      obg_no 29 rfl rfl (by kernel_rfl) rfl rfl,
      obg_no 29 rfl rfl (by kernel_rfl) rfl rfl,
      obg_no 29 rfl rfl (by kernel_rfl) rfl rfl,
      obg_no 29 rfl rfl (by kernel_rfl) rfl rfl,
      obg_no 29 rfl rfl (by kernel_rfl) rfl rfl,
      obg_of rfl (obt_pick_t (.bool true) rfl rfl rfl (srt_j 29 rfl (by kernel_rfl) rfl) (srt_c (v := .bool true))),
      obg_of rfl (obt_move (.bool true) rfl rfl rfl (srt_j 42 rfl (by kernel_rfl) rfl)),
      obg_no 43 rfl rfl (by kernel_rfl) rfl rfl,
      obg_no 43 rfl rfl (by kernel_rfl) rfl rfl,
      obg_no 43 rfl rfl (by kernel_rfl) rfl rfl,
      obg_no 43 rfl rfl (by kernel_rfl) rfl rfl,
      obg_no 43 rfl rfl (by kernel_rfl) rfl rfl,
      trivial⟩
  case fin =>
    intro a' w' h1 h2 h3 hS h4 K hK
    have ha := frame_ov rfl h1 h2 h3 ((15, v) :: (16, .bool false) :: (17, .bool true) :: (18, .bool true) :: (19, undef) :: (20, undef) :: (21, undef) :: (22, .bool true) :: (23, .bool true) :: (24, undef) :: (25, undef) :: (26, undef) :: (27, undef) :: (28, undef) :: (29, undef) :: (30, undef) :: (31, undef) :: (32, undef) :: (33, .bool true) :: (34, .bool true) :: (35, undef) :: (36, undef) :: (37, undef) :: (38, undef) :: (39, undef) :: (40, undef) :: (41, undef) :: (42, undef) :: (43, .bool true) :: (44, .bool true) :: (45, undef) :: (46, undef) :: (47, undef) :: (48, undef) :: (49, undef) :: (50, undef) :: (51, undef) :: (52, undef) :: (53, undef) :: (54, undef) :: (55, undef) :: (56, undef) :: (57, .bool true) :: (58, .bool true) :: (59, undef) :: (60, undef) :: (61, undef) :: (62, undef) :: (63, undef) :: (64, a'.tmps.getD 64 undef) :: []) (by kernel_rfl) ⟨h4 0 15 rfl (by decide), h4 1 16 rfl (by decide), h4 2 17 rfl (by decide), h4 3 18 rfl (by decide), h4 4 19 rfl (by decide), h4 5 20 rfl (by decide), h4 6 21 rfl (by decide), h4 7 22 rfl (by decide), h4 8 23 rfl (by decide), h4 9 24 rfl (by decide), h4 10 25 rfl (by decide), h4 11 26 rfl (by decide), h4 12 27 rfl (by decide), h4 13 28 rfl (by decide), h4 14 29 rfl (by decide), h4 15 30 rfl (by decide), h4 16 31 rfl (by decide), h4 17 32 rfl (by decide), h4 18 33 rfl (by decide), h4 19 34 rfl (by decide), h4 20 35 rfl (by decide), h4 21 36 rfl (by decide), h4 22 37 rfl (by decide), h4 23 38 rfl (by decide), h4 24 39 rfl (by decide), h4 25 40 rfl (by decide), h4 26 41 rfl (by decide), h4 27 42 rfl (by decide), h4 28 43 rfl (by decide), h4 29 44 rfl (by decide), h4 30 45 rfl (by decide), h4 31 46 rfl (by decide), h4 32 47 rfl (by decide), h4 33 48 rfl (by decide), h4 34 49 rfl (by decide), h4 35 50 rfl (by decide), h4 36 51 rfl (by decide), h4 37 52 rfl (by decide), h4 38 53 rfl (by decide), h4 39 54 rfl (by decide), h4 40 55 rfl (by decide), h4 41 56 rfl (by decide), h4 42 57 rfl (by decide), h4 43 58 rfl (by decide), h4 44 59 rfl (by decide), h4 45 60 rfl (by decide), h4 46 61 rfl (by decide), h4 47 62 rfl (by decide), h4 48 63 rfl (by decide), rfl, trivial⟩
    dsimp only [ov, List.lookup, Nat.reduceBEq, Nat.reduceAdd] at ha
    refine run_value (.bool true) (exec_pick_t (v := .bool true) rfl (h4 43 58 rfl (by decide)) (rfl)) (hK (.bool true) _ ?_)
    show Exit.then _ _ Exit.normal (Act.put a' (some 64) (.bool true)) _
    rw [ha]
    generalize a'.tmps.getD 64 undef = u64
    clear ha h1 h2 h3 h4 hst hK
    go_wp2
    go_ret2
    exact ⟨_, rfl, ownMat_nil _ _ _, hS⟩
set_option maxHeartbeats 4000000 in
theorem specAgh_nil (v : Value) (ag : Option Addr) (cg : Nat) (R C : Nat) (f : Nat → Nat → Int) (y x : Int) (w : World) (hin : InMat w v (mkM R C f)) (hI : Img R C f) :
    Calls Try.prog 39 #[v, .slice ag 0 cg, .int .i64 y, .int .i64 x] w (MatRes2 [] false w) := by
  have HOK := hide fun (w2 : World) (hb : Below w.heap.size w w2) => specImageOk_any v _ w2 (inMat_below hin hb)
  rw [img_ok hI] at HOK
  obtain ⟨n, hn⟩ : ∃ n : Nat, n = 0 := ⟨_, rfl⟩
  have h0I : ((n : Int) == 0) = true := by rw [hn]; rfl
  rw [← hn]
  obtain ⟨g, o, cap, rfl, hg, -⟩ := inMat_img hin (by have := hI.r1; omega) (by have := hI.c1; omega)
  clear hin hI hn
  go_enter Try.func39, Try.ntmps39
  go_upto_region 1 with fail
  obtain ⟨fs, hfs⟩ : ∃ fs : List FactP, fs = (((isV (.slice (some ⟨g, o, none⟩) R cap))) :: ((isV (.bool true))) :: ((isV (.bool false))) :: ((isV (.bool false))) :: ((isV (.slice ag n cg))) :: ((isV (.int .i64 ((n : Int))))) :: ((isV (.bool true))) :: ((isV (.bool true))) :: ((isV (.bool true))) :: ((isV (undef))) :: ((isV (undef))) :: ((isV (undef))) :: ((isV (undef))) :: ((isV (undef))) :: ((isV (undef))) :: ((isV (undef))) :: ((isV (undef))) :: ((isV (undef))) :: ((isV (.bool true))) :: ((isV (.bool true))) :: ((isV (undef))) :: ((isV (undef))) :: ((isV (undef))) :: ((isV (undef))) :: ((isV (undef))) :: ((isV (undef))) :: ((isV (undef))) :: ((isV (undef))) :: ((isV (.bool true))) :: ((isV (.bool true))) :: ((isV (undef))) :: ((isV (undef))) :: ((isV (undef))) :: ((isV (undef))) :: ((isV (undef))) :: ((isV (undef))) :: ((isV (undef))) :: ((isV (undef))) :: ((isV (undef))) :: ((isV (undef))) :: ((isV (undef))) :: ((isV (undef))) :: ((isV (.bool true))) :: ((isV (.bool true))) :: ((isV (undef))) :: ((isV (undef))) :: ((isV (undef))) :: ((isV (undef))) :: ((isV (undef))) :: []) := ⟨_, rfl⟩
  have hst : ∀ f ∈ fs, StableP f := by
    rw [hfs]; intro f hf
    simp only [List.mem_cons, List.not_mem_nil, or_false] at hf
    rcases hf with rfl | rfl | rfl | rfl | rfl | rfl | rfl | rfl | rfl | rfl | rfl | rfl | rfl | rfl | rfl | rfl | rfl | rfl | rfl | rfl | rfl | rfl | rfl | rfl | rfl | rfl | rfl | rfl | rfl | rfl | rfl | rfl | rfl | rfl | rfl | rfl | rfl | rfl | rfl | rfl | rfl | rfl | rfl | rfl | rfl | rfl | rfl | rfl | rfl <;> exact stable_v _
  subst hfs
  refine wp_region_g (S := fun w2 => Below w.heap.size w w2) (((isV (.slice (some ⟨g, o, none⟩) R cap))) :: ((isV (.bool true))) :: ((isV (.bool false))) :: ((isV (.bool false))) :: ((isV (.slice ag n cg))) :: ((isV (.int .i64 ((n : Int))))) :: ((isV (.bool true))) :: ((isV (.bool true))) :: ((isV (.bool true))) :: ((isV (undef))) :: ((isV (undef))) :: ((isV (undef))) :: ((isV (undef))) :: ((isV (undef))) :: ((isV (undef))) :: ((isV (undef))) :: ((isV (undef))) :: ((isV (undef))) :: ((isV (.bool true))) :: ((isV (.bool true))) :: ((isV (undef))) :: ((isV (undef))) :: ((isV (undef))) :: ((isV (undef))) :: ((isV (undef))) :: ((isV (undef))) :: ((isV (undef))) :: ((isV (undef))) :: ((isV (.bool true))) :: ((isV (.bool true))) :: ((isV (undef))) :: ((isV (undef))) :: ((isV (undef))) :: ((isV (undef))) :: ((isV (undef))) :: ((isV (undef))) :: ((isV (undef))) :: ((isV (undef))) :: ((isV (undef))) :: ((isV (undef))) :: ((isV (undef))) :: ((isV (undef))) :: ((isV (.bool true))) :: ((isV (.bool true))) :: ((isV (undef))) :: ((isV (undef))) :: ((isV (undef))) :: ((isV (undef))) :: ((isV (undef))) :: []) [(0, .slice (some ⟨g, o, none⟩) R cap), (1, .slice ag n cg)] _ _ 49 (by kernel_rfl) rfl rfl (by kernel_rfl) (by kernel_rfl) rfl (by kernel_rfl) ?base (below_drew (Below.refl _ _)) ?ob rfl ?fin
  case base =>
    intro t v ht
    simp only [List.lookup_cons, List.lookup_nil] at ht
    repeat' split at ht
    all_goals first | (cases ht; done) | (obtain rfl := Option.some.inj ht; rename_i hh; obtain rfl := eq_of_beq hh; rfl)
  case ob =>
    exact ⟨obg_of rfl (obt_move (.slice (some ⟨g, o, none⟩) R cap) rfl rfl rfl (srt_b 0 rfl)),
      obg_of rfl (obt_call hst [.slice (some ⟨g, o, none⟩) R cap] rfl Try.func80 (by kernel_rfl) (by kernel_rfl) rfl ⟨(srt_j 0 rfl (by kernel_rfl) rfl), trivial⟩ (fun w2 hS => (HOK.out w2 hS).mono fun e w3 ⟨he, hw⟩ => ⟨_, he, hw ▸ hS, hw ▸ Below.refl _ _, rfl⟩)),
      obg_of rfl (obt_one (.bool false) rfl rfl (srt_j 1 rfl (by kernel_rfl) rfl) (fun ρ w2 hS hx => by go_simp)),
      obg_of rfl (obt_move (.bool false) rfl rfl rfl (srt_j 2 rfl (by kernel_rfl) rfl)),
      obg_yes 3 rfl rfl (by kernel_rfl) rfl (obt_move (.slice ag n cg) rfl rfl rfl (srt_b 1 rfl)),
      obg_yes 3 rfl rfl (by kernel_rfl) rfl (obt_one (.int .i64 ((n : Int))) rfl rfl (srt_j 4 rfl (by kernel_rfl) rfl) (fun ρ w2 hS hx => by go_simp)),
      obg_yes 3 rfl rfl (by kernel_rfl) rfl (obt_two (.bool true) rfl rfl (srt_j 5 rfl (by kernel_rfl) rfl) (srt_c (v := .int .i64 0)) (fun ρ w2 hS hx hy => by go_simp)),
      obg_of rfl (obt_pick_f (.bool true) rfl rfl rfl (srt_j 3 rfl (by kernel_rfl) rfl) (srt_j 6 rfl (by kernel_rfl) rfl)),
      obg_of rfl (obt_move (.bool true) rfl rfl rfl (srt_j 7 rfl (by kernel_rfl) rfl)),
      obg_no 8 rfl rfl (by kernel_rfl) rfl rfl,
      obg_no 8 rfl rfl (by kernel_rfl) rfl rfl,
      obg_no 8 rfl rfl (by kernel_rfl) rfl rfl,
      obg_no 8 rfl rfl (by kernel_rfl) rfl rfl,
      obg_no 8 rfl rfl (by kernel_rfl) rfl rfl,
      obg_no 8 rfl rfl (by kernel_rfl) rfl rfl,
      obg_no 8 rfl rfl (by kernel_rfl) rfl rfl,
      obg_no 8 rfl rfl (by kernel_rfl) rfl rfl,
      obg_no 8 rfl rfl (by kernel_rfl) rfl rfl,
      obg_of rfl (obt_pick_t (.bool true) rfl rfl rfl (srt_j 8 rfl (by kernel_rfl) rfl) (srt_c (v := .bool true))),
      obg_of rfl (obt_move (.bool true) rfl rfl rfl (srt_j 18 rfl (by kernel_rfl) rfl)),
      obg_no 19 rfl rfl (by kernel_rfl) rfl rfl,
      obg_no 19 rfl rfl (by kernel_rfl) rfl rfl,
      obg_no 19 rfl rfl (by kernel_rfl) rfl rfl,
      obg_no 19 rfl rfl (by kernel_rfl) rfl rfl,
      obg_no 19 rfl rfl (by kernel_rfl) rfl rfl,
      obg_no 19 rfl rfl (by kernel_rfl) rfl rfl,
      obg_no 19 rfl rfl (by kernel_rfl) rfl rfl,
      obg_no 19 rfl rfl (by kernel_rfl) rfl rfl,
      obg_of rfl (obt_pick_t (.bool true) rfl rfl rfl (srt_j 19 rfl (by kernel_rfl) rfl) (srt_c (v := .bool true))),
      obg_of rfl (obt_move (.bool true) rfl rfl rfl (srt_j 28 rfl (by kernel_rfl) rfl)),
      obg_no 29 rfl rfl (by kernel_rfl) rfl rfl,
      obg_no 29 rfl rfl (by kernel_rfl) rfl rfl,
      obg_no 29 rfl rfl (by kernel_rfl) rfl rfl,
      obg_no 29 rfl rfl (by kernel_rfl) rfl rfl,
      obg_no 29 rfl rfl (by kernel_rfl) rfl rfl,
      obg_no 29 rfl rfl (by kernel_rfl) rfl rfl,
      obg_no 29 rfl rfl (by kernel_rfl) rfl rfl,
      obg_no 29 rfl rfl (by kernel_rfl) rfl rfl,
      obg_no 29 rfl rfl (by kernel_rfl) rfl rfl,
      obg_no 29 rfl rfl (by kernel_rfl) rfl rfl,
      obg_no 29 rfl rfl (by kernel_rfl) rfl rfl,
      obg_no 29 rfl rfl (by kernel_rfl) rfl rfl,
      obg_of rfl (obt_pick_t (.bool true) rfl rfl rfl (srt_j 29 rfl (by kernel_rfl) rfl) (srt_c (v := .bool true))),
      obg_of rfl (obt_move (.bool true) rfl rfl rfl (srt_j 42 rfl (by kernel_rfl) rfl)),
      obg_no 43 rfl rfl (by kernel_rfl) rfl rfl,
      obg_no 43 rfl rfl (by kernel_rfl) rfl rfl,
      obg_no 43 rfl rfl (by kernel_rfl) rfl rfl,
      obg_no 43 rfl rfl (by kernel_rfl) rfl rfl,
      obg_no 43 rfl rfl (by kernel_rfl) rfl rfl,
      trivial⟩
  case fin =>
    intro a' w' h1 h2 h3 hS h4 K hK
    have ha := frame_ov rfl h1 h2 h3 ((15, .slice (some ⟨g, o, none⟩) R cap) :: (16, .bool true) :: (17, .bool false) :: (18, .bool false) :: (19, .slice ag n cg) :: (20, .int .i64 ((n : Int))) :: (21, .bool true) :: (22, .bool true) :: (23, .bool true) :: (24, undef) :: (25, undef) :: (26, undef) :: (27, undef) :: (28, undef) :: (29, undef) :: (30, undef) :: (31, undef) :: (32, undef) :: (33, .bool true) :: (34, .bool true) :: (35, undef) :: (36, undef) :: (37, undef) :: (38, undef) :: (39, undef) :: (40, undef) :: (41, undef) :: (42, undef) :: (43, .bool true) :: (44, .bool true) :: (45, undef) :: (46, undef) :: (47, undef) :: (48, undef) :: (49, undef) :: (50, undef) :: (51, undef) :: (52, undef) :: (53, undef) :: (54, undef) :: (55, undef) :: (56, undef) :: (57, .bool true) :: (58, .bool true) :: (59, undef) :: (60, undef) :: (61, undef) :: (62, undef) :: (63, undef) :: (64, a'.tmps.getD 64 undef) :: []) (by kernel_rfl) ⟨h4 0 15 rfl (by decide), h4 1 16 rfl (by decide), h4 2 17 rfl (by decide), h4 3 18 rfl (by decide), h4 4 19 rfl (by decide), h4 5 20 rfl (by decide), h4 6 21 rfl (by decide), h4 7 22 rfl (by decide), h4 8 23 rfl (by decide), h4 9 24 rfl (by decide), h4 10 25 rfl (by decide), h4 11 26 rfl (by decide), h4 12 27 rfl (by decide), h4 13 28 rfl (by decide), h4 14 29 rfl (by decide), h4 15 30 rfl (by decide), h4 16 31 rfl (by decide), h4 17 32 rfl (by decide), h4 18 33 rfl (by decide), h4 19 34 rfl (by decide), h4 20 35 rfl (by decide), h4 21 36 rfl (by decide), h4 22 37 rfl (by decide), h4 23 38 rfl (by decide), h4 24 39 rfl (by decide), h4 25 40 rfl (by decide), h4 26 41 rfl (by decide), h4 27 42 rfl (by decide), h4 28 43 rfl (by decide), h4 29 44 rfl (by decide), h4 30 45 rfl (by decide), h4 31 46 rfl (by decide), h4 32 47 rfl (by decide), h4 33 48 rfl (by decide), h4 34 49 rfl (by decide), h4 35 50 rfl (by decide), h4 36 51 rfl (by decide), h4 37 52 rfl (by decide), h4 38 53 rfl (by decide), h4 39 54 rfl (by decide), h4 40 55 rfl (by decide), h4 41 56 rfl (by decide), h4 42 57 rfl (by decide), h4 43 58 rfl (by decide), h4 44 59 rfl (by decide), h4 45 60 rfl (by decide), h4 46 61 rfl (by decide), h4 47 62 rfl (by decide), h4 48 63 rfl (by decide), rfl, trivial⟩
    dsimp only [ov, List.lookup, Nat.reduceBEq, Nat.reduceAdd] at ha
    refine run_value (.bool true) (exec_pick_t (v := .bool true) rfl (h4 43 58 rfl (by decide)) (rfl)) (hK (.bool true) _ ?_)
    show Exit.then _ _ Exit.normal (Act.put a' (some 64) (.bool true)) _
    rw [ha]
    generalize a'.tmps.getD 64 undef = u64
    clear ha h1 h2 h3 h4 hst hK
    go_wp2
    go_ret2
    exact ⟨_, rfl, ownMat_nil _ _ _, hS⟩
set_option maxHeartbeats 8000000 in
theorem specAgh_out (v : Value) (g2 o2 n cg : Nat) (a2 : Option Addr) (C2 c2 : Nat) (R C : Nat) (f : Nat → Nat → Int) (y x : Int) (w : World) (hin : InMat w v (mkM R C f)) (hI : Img R C f) (hn : 1 ≤ n ∧ n ≤ 9223372036854775807) (hC2 : C2 ≤ 9223372036854775807) (hg2 : g2 < w.heap.size) (hc2 : w.cell? ⟨g2, o2, none⟩ = some (.slice a2 C2 c2))
    (b : Bool) (hsz : ∀ w2 : World, Below w.heap.size w w2 → Calls Try.prog 81 #[.slice (some ⟨g2, o2, none⟩) n cg, .int .i64 n, .int .i64 C2, .int .i64 (-9223372036854775807), .int .i64 9223372036854775807] w2 fun e w' => e = .returned (.bool b) ∧ w2 = w')
    (h : b = false ∨ ¬ (0 ≤ y ∧ y ≤ (R : Int) - n) ∨ ¬ (0 ≤ x ∧ x ≤ (C : Int) - C2) ∨ C2 = 0) :
    Calls Try.prog 39 #[v, .slice (some ⟨g2, o2, none⟩) n cg, .int .i64 y, .int .i64 x] w (MatRes2 [] false w) := by
  have HOK := hide fun (w2 : World) (hb : Below w.heap.size w w2) => specImageOk_any v _ w2 (inMat_below hin hb)
  rw [img_ok hI] at HOK
  obtain ⟨g, o, cap, rfl, hg, hrow⟩ := inMat_img hin (by have := hI.r1; omega) (by have := hI.c1; omega)
  obtain ⟨g1, o1, k1, hcr, -, -⟩ := hrow 0 (by have := hI.r1; omega)
  rw [Nat.add_zero] at hcr
  have HCR := hide hcr
  have r1 := hI.r1; have r2 := hI.r2; have c1 := hI.c1; have c2' := hI.c2
  have h0I : ((n : Int) == 0) = false := by simp; omega
  have hpos : (0 : Int) < n := by omega
  have hn0 : 0 < n := by omega
  have hR0 : 0 < R := by omega
  have hRpos : (0 : Int) < R := by omega
  have lR : IntKind.i64.wrap ((R : Int) - n) = (R : Int) - n := IntWalk.i64_in _ (by omega)
  have lC : IntKind.i64.wrap ((C : Int) - C2) = (C : Int) - C2 := IntWalk.i64_in _ (by omega)
  have HCR2 := hide hc2
  clear hin hI hrow hcr
  cases b with
  | false =>
    have HSZ := hide hsz
    clear hsz h hc2
    go_enter Try.func39, Try.ntmps39
    go_upto_region 1 with fail
    obtain ⟨fs, hfs⟩ : ∃ fs : List FactP, fs = (((isV (.slice (some ⟨g, o, none⟩) R cap))) :: ((isV (.bool true))) :: ((isV (.bool false))) :: ((isV (.bool false))) :: ((isV (.slice (some ⟨g2, o2, none⟩) n cg))) :: ((isV (.int .i64 ((n : Int))))) :: ((isV (.bool false))) :: ((isV (.bool false))) :: ((isV (.bool false))) :: ((isV (.slice (some ⟨g2, o2, none⟩) n cg))) :: ((isV (.slice (some ⟨g2, o2, none⟩) n cg))) :: ((isV (.int .i64 ((n : Int))))) :: ((isV (.slice (some ⟨g2, o2, none⟩) n cg))) :: ((isV (.pointer (some ⟨g2, o2, none⟩)))) :: ((isV (.slice a2 C2 c2))) :: ((isV (.int .i64 ((C2 : Int))))) :: ((isV (.bool false))) :: ((isV (.bool true))) :: ((isV (.bool true))) :: ((isV (.bool true))) :: ((isV (undef))) :: ((isV (undef))) :: ((isV (undef))) :: ((isV (undef))) :: ((isV (undef))) :: ((isV (undef))) :: ((isV (undef))) :: ((isV (undef))) :: ((isV (.bool true))) :: ((isV (.bool true))) :: ((isV (undef))) :: ((isV (undef))) :: ((isV (undef))) :: ((isV (undef))) :: ((isV (undef))) :: ((isV (undef))) :: ((isV (undef))) :: ((isV (undef))) :: ((isV (undef))) :: ((isV (undef))) :: ((isV (undef))) :: ((isV (undef))) :: ((isV (.bool true))) :: ((isV (.bool true))) :: ((isV (undef))) :: ((isV (undef))) :: ((isV (undef))) :: ((isV (undef))) :: ((isV (undef))) :: []) := ⟨_, rfl⟩
    have hst : ∀ f ∈ fs, StableP f := by
      rw [hfs]; intro f hf
      simp only [List.mem_cons, List.not_mem_nil, or_false] at hf
      rcases hf with rfl | rfl | rfl | rfl | rfl | rfl | rfl | rfl | rfl | rfl | rfl | rfl | rfl | rfl | rfl | rfl | rfl | rfl | rfl | rfl | rfl | rfl | rfl | rfl | rfl | rfl | rfl | rfl | rfl | rfl | rfl | rfl | rfl | rfl | rfl | rfl | rfl | rfl | rfl | rfl | rfl | rfl | rfl | rfl | rfl | rfl | rfl | rfl | rfl <;> exact stable_v _
    subst hfs
    refine wp_region_g (S := fun w2 => Below w.heap.size w w2) (((isV (.slice (some ⟨g, o, none⟩) R cap))) :: ((isV (.bool true))) :: ((isV (.bool false))) :: ((isV (.bool false))) :: ((isV (.slice (some ⟨g2, o2, none⟩) n cg))) :: ((isV (.int .i64 ((n : Int))))) :: ((isV (.bool false))) :: ((isV (.bool false))) :: ((isV (.bool false))) :: ((isV (.slice (some ⟨g2, o2, none⟩) n cg))) :: ((isV (.slice (some ⟨g2, o2, none⟩) n cg))) :: ((isV (.int .i64 ((n : Int))))) :: ((isV (.slice (some ⟨g2, o2, none⟩) n cg))) :: ((isV (.pointer (some ⟨g2, o2, none⟩)))) :: ((isV (.slice a2 C2 c2))) :: ((isV (.int .i64 ((C2 : Int))))) :: ((isV (.bool false))) :: ((isV (.bool true))) :: ((isV (.bool true))) :: ((isV (.bool true))) :: ((isV (undef))) :: ((isV (undef))) :: ((isV (undef))) :: ((isV (undef))) :: ((isV (undef))) :: ((isV (undef))) :: ((isV (undef))) :: ((isV (undef))) :: ((isV (.bool true))) :: ((isV (.bool true))) :: ((isV (undef))) :: ((isV (undef))) :: ((isV (undef))) :: ((isV (undef))) :: ((isV (undef))) :: ((isV (undef))) :: ((isV (undef))) :: ((isV (undef))) :: ((isV (undef))) :: ((isV (undef))) :: ((isV (undef))) :: ((isV (undef))) :: ((isV (.bool true))) :: ((isV (.bool true))) :: ((isV (undef))) :: ((isV (undef))) :: ((isV (undef))) :: ((isV (undef))) :: ((isV (undef))) :: []) [(0, .slice (some ⟨g, o, none⟩) R cap), (1, .slice (some ⟨g2, o2, none⟩) n cg)] _ _ 49 (by kernel_rfl) rfl rfl (by kernel_rfl) (by kernel_rfl) rfl (by kernel_rfl) ?base (below_drew (Below.refl _ _)) ?ob rfl ?fin
    case base =>
      intro t v ht
      simp only [List.lookup_cons, List.lookup_nil] at ht
      repeat' split at ht
      all_goals first | (cases ht; done) | (obtain rfl := Option.some.inj ht; rename_i hh; obtain rfl := eq_of_beq hh; rfl)
    case ob =>
      exact ⟨obg_of rfl (obt_move (.slice (some ⟨g, o, none⟩) R cap) rfl rfl rfl (srt_b 0 rfl)),
        obg_of rfl (obt_call hst [.slice (some ⟨g, o, none⟩) R cap] rfl Try.func80 (by kernel_rfl) (by kernel_rfl) rfl ⟨(srt_j 0 rfl (by kernel_rfl) rfl), trivial⟩ (fun w2 hS => (HOK.out w2 hS).mono fun e w3 ⟨he, hw⟩ => ⟨_, he, hw ▸ hS, hw ▸ Below.refl _ _, rfl⟩)),
        obg_of rfl (obt_one (.bool false) rfl rfl (srt_j 1 rfl (by kernel_rfl) rfl) (fun ρ w2 hS hx => by go_simp)),
        obg_of rfl (obt_move (.bool false) rfl rfl rfl (srt_j 2 rfl (by kernel_rfl) rfl)),
        obg_yes 3 rfl rfl (by kernel_rfl) rfl (obt_move (.slice (some ⟨g2, o2, none⟩) n cg) rfl rfl rfl (srt_b 1 rfl)),
        obg_yes 3 rfl rfl (by kernel_rfl) rfl (obt_one (.int .i64 ((n : Int))) rfl rfl (srt_j 4 rfl (by kernel_rfl) rfl) (fun ρ w2 hS hx => by go_simp)),
        obg_yes 3 rfl rfl (by kernel_rfl) rfl (obt_two (.bool false) rfl rfl (srt_j 5 rfl (by kernel_rfl) rfl) (srt_c (v := .int .i64 0)) (fun ρ w2 hS hx hy => by go_simp)),
        obg_of rfl (obt_pick_f (.bool false) rfl rfl rfl (srt_j 3 rfl (by kernel_rfl) rfl) (srt_j 6 rfl (by kernel_rfl) rfl)),
        obg_of rfl (obt_move (.bool false) rfl rfl rfl (srt_j 7 rfl (by kernel_rfl) rfl)),
        obg_yes 8 rfl rfl (by kernel_rfl) rfl (obt_move (.slice (some ⟨g2, o2, none⟩) n cg) rfl rfl rfl (srt_b 1 rfl)),
        obg_yes 8 rfl rfl (by kernel_rfl) rfl (obt_move (.slice (some ⟨g2, o2, none⟩) n cg) rfl rfl rfl (srt_b 1 rfl)),
        obg_yes 8 rfl rfl (by kernel_rfl) rfl (obt_one (.int .i64 ((n : Int))) rfl rfl (srt_j 10 rfl (by kernel_rfl) rfl) (fun ρ w2 hS hx => by go_simp)),
        obg_yes 8 rfl rfl (by kernel_rfl) rfl (obt_move (.slice (some ⟨g2, o2, none⟩) n cg) rfl rfl rfl (srt_b 1 rfl)),
        obg_yes 8 rfl rfl (by kernel_rfl) rfl (obt_two (.pointer (some ⟨g2, o2, none⟩)) rfl rfl (srt_j 12 rfl (by kernel_rfl) rfl) (srt_c (v := .int .i64 0)) (fun ρ w2 hS hx hy => by go_simp)),
        obg_yes 8 rfl rfl (by kernel_rfl) rfl (obt_one (.slice a2 C2 c2) rfl rfl (srt_j 13 rfl (by kernel_rfl) rfl) (fun ρ w2 hS hx => by have hc := below_cell hS hg2 HCR2.out; go_simp)),
        obg_yes 8 rfl rfl (by kernel_rfl) rfl (obt_one (.int .i64 ((C2 : Int))) rfl rfl (srt_j 14 rfl (by kernel_rfl) rfl) (fun ρ w2 hS hx => by go_simp)),
        obg_yes 8 rfl rfl (by kernel_rfl) rfl (obt_call hst [.slice (some ⟨g2, o2, none⟩) n cg, .int .i64 ((n : Int)), .int .i64 ((C2 : Int)), .int .i64 (-9223372036854775807), .int .i64 9223372036854775807] rfl Try.func81 (by kernel_rfl) (by kernel_rfl) rfl ⟨(srt_j 9 rfl (by kernel_rfl) rfl), (srt_j 11 rfl (by kernel_rfl) rfl), (srt_j 15 rfl (by kernel_rfl) rfl), (srt_c (v := .int .i64 (-9223372036854775807))), (srt_c (v := .int .i64 9223372036854775807)), trivial⟩ (fun w2 hS => (HSZ.out w2 hS).mono fun e w3 ⟨he, hw⟩ => ⟨_, he, hw ▸ hS, hw ▸ Below.refl _ _, rfl⟩)),
        obg_yes 8 rfl rfl (by kernel_rfl) rfl (obt_one (.bool true) rfl rfl (srt_j 16 rfl (by kernel_rfl) rfl) (fun ρ w2 hS hx => by go_simp)),
        obg_of rfl (obt_pick_f (.bool true) rfl rfl rfl (srt_j 8 rfl (by kernel_rfl) rfl) (srt_j 17 rfl (by kernel_rfl) rfl)),
        obg_of rfl (obt_move (.bool true) rfl rfl rfl (srt_j 18 rfl (by kernel_rfl) rfl)),
        obg_no 19 rfl rfl (by kernel_rfl) rfl rfl,
        obg_no 19 rfl rfl (by kernel_rfl) rfl rfl,
        obg_no 19 rfl rfl (by kernel_rfl) rfl rfl,
        obg_no 19 rfl rfl (by kernel_rfl) rfl rfl,
        obg_no 19 rfl rfl (by kernel_rfl) rfl rfl,
        obg_no 19 rfl rfl (by kernel_rfl) rfl rfl,
        obg_no 19 rfl rfl (by kernel_rfl) rfl rfl,
        obg_no 19 rfl rfl (by kernel_rfl) rfl rfl,
        obg_of rfl (obt_pick_t (.bool true) rfl rfl rfl (srt_j 19 rfl (by kernel_rfl) rfl) (srt_c (v := .bool true))),
        obg_of rfl (obt_move (.bool true) rfl rfl rfl (srt_j 28 rfl (by kernel_rfl) rfl)),
        obg_no 29 rfl rfl (by kernel_rfl) rfl rfl,
        obg_no 29 rfl rfl (by kernel_rfl) rfl rfl,
        obg_no 29 rfl rfl (by kernel_rfl) rfl rfl,
        obg_no 29 rfl rfl (by kernel_rfl) rfl rfl,
        obg_no 29 rfl rfl (by kernel_rfl) rfl rfl,
        obg_no 29 rfl rfl (by kernel_rfl) rfl rfl,
        obg_no 29 rfl rfl (by kernel_rfl) rfl rfl,
        obg_no 29 rfl rfl (by kernel_rfl) rfl rfl,
        obg_no 29 rfl rfl (by kernel_rfl) rfl rfl,
        obg_no 29 rfl rfl (by kernel_rfl) rfl rfl,
        obg_no 29 rfl rfl (by kernel_rfl) rfl rfl,
        obg_no 29 rfl rfl (by kernel_rfl) rfl rfl,
        obg_of rfl (obt_pick_t (.bool true) rfl rfl rfl (srt_j 29 rfl (by kernel_rfl) rfl) (srt_c (v := .bool true))),
        obg_of rfl (obt_move (.bool true) rfl rfl rfl (srt_j 42 rfl (by kernel_rfl) rfl)),
        obg_no 43 rfl rfl (by kernel_rfl) rfl rfl,
        obg_no 43 rfl rfl (by kernel_rfl) rfl rfl,
        obg_no 43 rfl rfl (by kernel_rfl) rfl rfl,
        obg_no 43 rfl rfl (by kernel_rfl) rfl rfl,
        obg_no 43 rfl rfl (by kernel_rfl) rfl rfl,
        trivial⟩
    case fin =>
      intro a' w' h1 h2 h3 hS h4 K hK
      have ha := frame_ov rfl h1 h2 h3 ((15, .slice (some ⟨g, o, none⟩) R cap) :: (16, .bool true) :: (17, .bool false) :: (18, .bool false) :: (19, .slice (some ⟨g2, o2, none⟩) n cg) :: (20, .int .i64 ((n : Int))) :: (21, .bool false) :: (22, .bool false) :: (23, .bool false) :: (24, .slice (some ⟨g2, o2, none⟩) n cg) :: (25, .slice (some ⟨g2, o2, none⟩) n cg) :: (26, .int .i64 ((n : Int))) :: (27, .slice (some ⟨g2, o2, none⟩) n cg) :: (28, .pointer (some ⟨g2, o2, none⟩)) :: (29, .slice a2 C2 c2) :: (30, .int .i64 ((C2 : Int))) :: (31, .bool false) :: (32, .bool true) :: (33, .bool true) :: (34, .bool true) :: (35, undef) :: (36, undef) :: (37, undef) :: (38, undef) :: (39, undef) :: (40, undef) :: (41, undef) :: (42, undef) :: (43, .bool true) :: (44, .bool true) :: (45, undef) :: (46, undef) :: (47, undef) :: (48, undef) :: (49, undef) :: (50, undef) :: (51, undef) :: (52, undef) :: (53, undef) :: (54, undef) :: (55, undef) :: (56, undef) :: (57, .bool true) :: (58, .bool true) :: (59, undef) :: (60, undef) :: (61, undef) :: (62, undef) :: (63, undef) :: (64, a'.tmps.getD 64 undef) :: []) (by kernel_rfl) ⟨h4 0 15 rfl (by decide), h4 1 16 rfl (by decide), h4 2 17 rfl (by decide), h4 3 18 rfl (by decide), h4 4 19 rfl (by decide), h4 5 20 rfl (by decide), h4 6 21 rfl (by decide), h4 7 22 rfl (by decide), h4 8 23 rfl (by decide), h4 9 24 rfl (by decide), h4 10 25 rfl (by decide), h4 11 26 rfl (by decide), h4 12 27 rfl (by decide), h4 13 28 rfl (by decide), h4 14 29 rfl (by decide), h4 15 30 rfl (by decide), h4 16 31 rfl (by decide), h4 17 32 rfl (by decide), h4 18 33 rfl (by decide), h4 19 34 rfl (by decide), h4 20 35 rfl (by decide), h4 21 36 rfl (by decide), h4 22 37 rfl (by decide), h4 23 38 rfl (by decide), h4 24 39 rfl (by decide), h4 25 40 rfl (by decide), h4 26 41 rfl (by decide), h4 27 42 rfl (by decide), h4 28 43 rfl (by decide), h4 29 44 rfl (by decide), h4 30 45 rfl (by decide), h4 31 46 rfl (by decide), h4 32 47 rfl (by decide), h4 33 48 rfl (by decide), h4 34 49 rfl (by decide), h4 35 50 rfl (by decide), h4 36 51 rfl (by decide), h4 37 52 rfl (by decide), h4 38 53 rfl (by decide), h4 39 54 rfl (by decide), h4 40 55 rfl (by decide), h4 41 56 rfl (by decide), h4 42 57 rfl (by decide), h4 43 58 rfl (by decide), h4 44 59 rfl (by decide), h4 45 60 rfl (by decide), h4 46 61 rfl (by decide), h4 47 62 rfl (by decide), h4 48 63 rfl (by decide), rfl, trivial⟩
      dsimp only [ov, List.lookup, Nat.reduceBEq, Nat.reduceAdd] at ha
      refine run_value (.bool true) (exec_pick_t (v := .bool true) rfl (h4 43 58 rfl (by decide)) (rfl)) (hK (.bool true) _ ?_)
      show Exit.then _ _ Exit.normal (Act.put a' (some 64) (.bool true)) _
      rw [ha]
      generalize a'.tmps.getD 64 undef = u64
      clear ha h1 h2 h3 h4 hst hK
      go_wp2
      go_ret2
      exact ⟨_, rfl, ownMat_nil _ _ _, hS⟩
  | true =>
    have HSZ := hide hsz
    by_cases hy : 0 ≤ y ∧ y ≤ (R : Int) - n
    · have HY := hide (decide_eq_true hy)
      by_cases hx : 0 ≤ x ∧ x ≤ (C : Int) - C2
      · have HX := hide (decide_eq_true hx)
        have hz : C2 = 0 := by
          rcases h with h | h | h | h
          · cases h
          · exact absurd hy h
          · exact absurd hx h
          · exact h
        have hzI : ((C2 : Int) == 0) = true := by rw [hz]; rfl
        clear hsz h hy hx hz hc2
        go_enter Try.func39, Try.ntmps39
        go_upto_region 1 with fail
        obtain ⟨fs, hfs⟩ : ∃ fs : List FactP, fs = (((isV (.slice (some ⟨g, o, none⟩) R cap))) :: ((isV (.bool true))) :: ((isV (.bool false))) :: ((isV (.bool false))) :: ((isV (.slice (some ⟨g2, o2, none⟩) n cg))) :: ((isV (.int .i64 ((n : Int))))) :: ((isV (.bool false))) :: ((isV (.bool false))) :: ((isV (.bool false))) :: ((isV (.slice (some ⟨g2, o2, none⟩) n cg))) :: ((isV (.slice (some ⟨g2, o2, none⟩) n cg))) :: ((isV (.int .i64 ((n : Int))))) :: ((isV (.slice (some ⟨g2, o2, none⟩) n cg))) :: ((isV (.pointer (some ⟨g2, o2, none⟩)))) :: ((isV (.slice a2 C2 c2))) :: ((isV (.int .i64 ((C2 : Int))))) :: ((isV (.bool true))) :: ((isV (.bool false))) :: ((isV (.bool false))) :: ((isV (.bool false))) :: ((isV (.int .i64 y))) :: ((isV (.slice (some ⟨g, o, none⟩) R cap))) :: ((isV (.int .i64 ((R : Int))))) :: ((isV (.slice (some ⟨g2, o2, none⟩) n cg))) :: ((isV (.int .i64 ((n : Int))))) :: ((isV (.int .i64 ((R : Int) - (n : Int))))) :: ((isV (.bool true))) :: ((isV (.bool false))) :: ((isV (.bool false))) :: ((isV (.bool false))) :: ((isV (.int .i64 x))) :: ((isV (.slice (some ⟨g, o, none⟩) R cap))) :: ((isV (.pointer (some ⟨g, o, none⟩)))) :: ((isV (.slice (some ⟨g1, o1, none⟩) C k1))) :: ((isV (.int .i64 ((C : Int))))) :: ((isV (.slice (some ⟨g2, o2, none⟩) n cg))) :: ((isV (.pointer (some ⟨g2, o2, none⟩)))) :: ((isV (.slice a2 C2 c2))) :: ((isV (.int .i64 ((C2 : Int))))) :: ((isV (.int .i64 ((C : Int) - (C2 : Int))))) :: ((isV (.bool true))) :: ((isV (.bool false))) :: ((isV (.bool false))) :: ((isV (.bool false))) :: ((isV (.slice (some ⟨g2, o2, none⟩) n cg))) :: ((isV (.pointer (some ⟨g2, o2, none⟩)))) :: ((isV (.slice a2 C2 c2))) :: ((isV (.int .i64 ((C2 : Int))))) :: ((isV (.bool true))) :: []) := ⟨_, rfl⟩
        have hst : ∀ f ∈ fs, StableP f := by
          rw [hfs]; intro f hf
          simp only [List.mem_cons, List.not_mem_nil, or_false] at hf
          rcases hf with rfl | rfl | rfl | rfl | rfl | rfl | rfl | rfl | rfl | rfl | rfl | rfl | rfl | rfl | rfl | rfl | rfl | rfl | rfl | rfl | rfl | rfl | rfl | rfl | rfl | rfl | rfl | rfl | rfl | rfl | rfl | rfl | rfl | rfl | rfl | rfl | rfl | rfl | rfl | rfl | rfl | rfl | rfl | rfl | rfl | rfl | rfl | rfl | rfl <;> exact stable_v _
        subst hfs
        refine wp_region_g (S := fun w2 => Below w.heap.size w w2) (((isV (.slice (some ⟨g, o, none⟩) R cap))) :: ((isV (.bool true))) :: ((isV (.bool false))) :: ((isV (.bool false))) :: ((isV (.slice (some ⟨g2, o2, none⟩) n cg))) :: ((isV (.int .i64 ((n : Int))))) :: ((isV (.bool false))) :: ((isV (.bool false))) :: ((isV (.bool false))) :: ((isV (.slice (some ⟨g2, o2, none⟩) n cg))) :: ((isV (.slice (some ⟨g2, o2, none⟩) n cg))) :: ((isV (.int .i64 ((n : Int))))) :: ((isV (.slice (some ⟨g2, o2, none⟩) n cg))) :: ((isV (.pointer (some ⟨g2, o2, none⟩)))) :: ((isV (.slice a2 C2 c2))) :: ((isV (.int .i64 ((C2 : Int))))) :: ((isV (.bool true))) :: ((isV (.bool false))) :: ((isV (.bool false))) :: ((isV (.bool false))) :: ((isV (.int .i64 y))) :: ((isV (.slice (some ⟨g, o, none⟩) R cap))) :: ((isV (.int .i64 ((R : Int))))) :: ((isV (.slice (some ⟨g2, o2, none⟩) n cg))) :: ((isV (.int .i64 ((n : Int))))) :: ((isV (.int .i64 ((R : Int) - (n : Int))))) :: ((isV (.bool true))) :: ((isV (.bool false))) :: ((isV (.bool false))) :: ((isV (.bool false))) :: ((isV (.int .i64 x))) :: ((isV (.slice (some ⟨g, o, none⟩) R cap))) :: ((isV (.pointer (some ⟨g, o, none⟩)))) :: ((isV (.slice (some ⟨g1, o1, none⟩) C k1))) :: ((isV (.int .i64 ((C : Int))))) :: ((isV (.slice (some ⟨g2, o2, none⟩) n cg))) :: ((isV (.pointer (some ⟨g2, o2, none⟩)))) :: ((isV (.slice a2 C2 c2))) :: ((isV (.int .i64 ((C2 : Int))))) :: ((isV (.int .i64 ((C : Int) - (C2 : Int))))) :: ((isV (.bool true))) :: ((isV (.bool false))) :: ((isV (.bool false))) :: ((isV (.bool false))) :: ((isV (.slice (some ⟨g2, o2, none⟩) n cg))) :: ((isV (.pointer (some ⟨g2, o2, none⟩)))) :: ((isV (.slice a2 C2 c2))) :: ((isV (.int .i64 ((C2 : Int))))) :: ((isV (.bool true))) :: []) [(0, .slice (some ⟨g, o, none⟩) R cap), (1, .slice (some ⟨g2, o2, none⟩) n cg), (2, .int .i64 y), (3, .int .i64 x)] _ _ 49 (by kernel_rfl) rfl rfl (by kernel_rfl) (by kernel_rfl) rfl (by kernel_rfl) ?base (below_drew (Below.refl _ _)) ?ob rfl ?fin
        case base =>
          intro t v ht
          simp only [List.lookup_cons, List.lookup_nil] at ht
          repeat' split at ht
          all_goals first | (cases ht; done) | (obtain rfl := Option.some.inj ht; rename_i hh; obtain rfl := eq_of_beq hh; rfl)
        case ob =>
          exact ⟨obg_of rfl (obt_move (.slice (some ⟨g, o, none⟩) R cap) rfl rfl rfl (srt_b 0 rfl)),
            obg_of rfl (obt_call hst [.slice (some ⟨g, o, none⟩) R cap] rfl Try.func80 (by kernel_rfl) (by kernel_rfl) rfl ⟨(srt_j 0 rfl (by kernel_rfl) rfl), trivial⟩ (fun w2 hS => (HOK.out w2 hS).mono fun e w3 ⟨he, hw⟩ => ⟨_, he, hw ▸ hS, hw ▸ Below.refl _ _, rfl⟩)),
            obg_of rfl (obt_one (.bool false) rfl rfl (srt_j 1 rfl (by kernel_rfl) rfl) (fun ρ w2 hS hx => by go_simp)),
            obg_of rfl (obt_move (.bool false) rfl rfl rfl (srt_j 2 rfl (by kernel_rfl) rfl)),
            obg_yes 3 rfl rfl (by kernel_rfl) rfl (obt_move (.slice (some ⟨g2, o2, none⟩) n cg) rfl rfl rfl (srt_b 1 rfl)),
            obg_yes 3 rfl rfl (by kernel_rfl) rfl (obt_one (.int .i64 ((n : Int))) rfl rfl (srt_j 4 rfl (by kernel_rfl) rfl) (fun ρ w2 hS hx => by go_simp)),
            obg_yes 3 rfl rfl (by kernel_rfl) rfl (obt_two (.bool false) rfl rfl (srt_j 5 rfl (by kernel_rfl) rfl) (srt_c (v := .int .i64 0)) (fun ρ w2 hS hx hy => by go_simp)),
            obg_of rfl (obt_pick_f (.bool false) rfl rfl rfl (srt_j 3 rfl (by kernel_rfl) rfl) (srt_j 6 rfl (by kernel_rfl) rfl)),
            obg_of rfl (obt_move (.bool false) rfl rfl rfl (srt_j 7 rfl (by kernel_rfl) rfl)),
            obg_yes 8 rfl rfl (by kernel_rfl) rfl (obt_move (.slice (some ⟨g2, o2, none⟩) n cg) rfl rfl rfl (srt_b 1 rfl)),
            obg_yes 8 rfl rfl (by kernel_rfl) rfl (obt_move (.slice (some ⟨g2, o2, none⟩) n cg) rfl rfl rfl (srt_b 1 rfl)),
            obg_yes 8 rfl rfl (by kernel_rfl) rfl (obt_one (.int .i64 ((n : Int))) rfl rfl (srt_j 10 rfl (by kernel_rfl) rfl) (fun ρ w2 hS hx => by go_simp)),
            obg_yes 8 rfl rfl (by kernel_rfl) rfl (obt_move (.slice (some ⟨g2, o2, none⟩) n cg) rfl rfl rfl (srt_b 1 rfl)),
            obg_yes 8 rfl rfl (by kernel_rfl) rfl (obt_two (.pointer (some ⟨g2, o2, none⟩)) rfl rfl (srt_j 12 rfl (by kernel_rfl) rfl) (srt_c (v := .int .i64 0)) (fun ρ w2 hS hx hy => by go_simp)),
            obg_yes 8 rfl rfl (by kernel_rfl) rfl (obt_one (.slice a2 C2 c2) rfl rfl (srt_j 13 rfl (by kernel_rfl) rfl) (fun ρ w2 hS hx => by have hc := below_cell hS hg2 HCR2.out; go_simp)),
            obg_yes 8 rfl rfl (by kernel_rfl) rfl (obt_one (.int .i64 ((C2 : Int))) rfl rfl (srt_j 14 rfl (by kernel_rfl) rfl) (fun ρ w2 hS hx => by go_simp)),
            obg_yes 8 rfl rfl (by kernel_rfl) rfl (obt_call hst [.slice (some ⟨g2, o2, none⟩) n cg, .int .i64 ((n : Int)), .int .i64 ((C2 : Int)), .int .i64 (-9223372036854775807), .int .i64 9223372036854775807] rfl Try.func81 (by kernel_rfl) (by kernel_rfl) rfl ⟨(srt_j 9 rfl (by kernel_rfl) rfl), (srt_j 11 rfl (by kernel_rfl) rfl), (srt_j 15 rfl (by kernel_rfl) rfl), (srt_c (v := .int .i64 (-9223372036854775807))), (srt_c (v := .int .i64 9223372036854775807)), trivial⟩ (fun w2 hS => (HSZ.out w2 hS).mono fun e w3 ⟨he, hw⟩ => ⟨_, he, hw ▸ hS, hw ▸ Below.refl _ _, rfl⟩)),
            obg_yes 8 rfl rfl (by kernel_rfl) rfl (obt_one (.bool false) rfl rfl (srt_j 16 rfl (by kernel_rfl) rfl) (fun ρ w2 hS hx => by go_simp)),
            obg_of rfl (obt_pick_f (.bool false) rfl rfl rfl (srt_j 8 rfl (by kernel_rfl) rfl) (srt_j 17 rfl (by kernel_rfl) rfl)),
            obg_of rfl (obt_move (.bool false) rfl rfl rfl (srt_j 18 rfl (by kernel_rfl) rfl)),
            obg_yes 19 rfl rfl (by kernel_rfl) rfl (obt_move (.int .i64 y) rfl rfl rfl (srt_b 2 rfl)),
            obg_yes 19 rfl rfl (by kernel_rfl) rfl (obt_move (.slice (some ⟨g, o, none⟩) R cap) rfl rfl rfl (srt_b 0 rfl)),
            obg_yes 19 rfl rfl (by kernel_rfl) rfl (obt_one (.int .i64 ((R : Int))) rfl rfl (srt_j 21 rfl (by kernel_rfl) rfl) (fun ρ w2 hS hx => by go_simp)),
            obg_yes 19 rfl rfl (by kernel_rfl) rfl (obt_move (.slice (some ⟨g2, o2, none⟩) n cg) rfl rfl rfl (srt_b 1 rfl)),
            obg_yes 19 rfl rfl (by kernel_rfl) rfl (obt_one (.int .i64 ((n : Int))) rfl rfl (srt_j 23 rfl (by kernel_rfl) rfl) (fun ρ w2 hS hx => by go_simp)),
            obg_yes 19 rfl rfl (by kernel_rfl) rfl (obt_two (.int .i64 ((R : Int) - (n : Int))) rfl rfl (srt_j 22 rfl (by kernel_rfl) rfl) (srt_j 24 rfl (by kernel_rfl) rfl) (fun ρ w2 hS hx hy => by go_simp)),
            obg_yes 19 rfl rfl (by kernel_rfl) rfl (obt_call hst [.int .i64 y, .int .i64 0, .int .i64 ((R : Int) - (n : Int))] rfl Try.func57 (by kernel_rfl) (by kernel_rfl) rfl ⟨(srt_j 20 rfl (by kernel_rfl) rfl), (srt_c (v := .int .i64 0)), (srt_j 25 rfl (by kernel_rfl) rfl), trivial⟩ (fun w2 hS => (l01In_any y 0 ((R : Int) - n) w2).mono fun e w3 ⟨he, hw⟩ => ⟨_, he.trans (by rw [HY.out]), hw ▸ hS, hw ▸ Below.refl _ _, rfl⟩)),
            obg_yes 19 rfl rfl (by kernel_rfl) rfl (obt_one (.bool false) rfl rfl (srt_j 26 rfl (by kernel_rfl) rfl) (fun ρ w2 hS hx => by go_simp)),
            obg_of rfl (obt_pick_f (.bool false) rfl rfl rfl (srt_j 19 rfl (by kernel_rfl) rfl) (srt_j 27 rfl (by kernel_rfl) rfl)),
            obg_of rfl (obt_move (.bool false) rfl rfl rfl (srt_j 28 rfl (by kernel_rfl) rfl)),
            obg_yes 29 rfl rfl (by kernel_rfl) rfl (obt_move (.int .i64 x) rfl rfl rfl (srt_b 3 rfl)),
            obg_yes 29 rfl rfl (by kernel_rfl) rfl (obt_move (.slice (some ⟨g, o, none⟩) R cap) rfl rfl rfl (srt_b 0 rfl)),
            obg_yes 29 rfl rfl (by kernel_rfl) rfl (obt_two (.pointer (some ⟨g, o, none⟩)) rfl rfl (srt_j 31 rfl (by kernel_rfl) rfl) (srt_c (v := .int .i64 0)) (fun ρ w2 hS hx hy => by go_simp)),
            obg_yes 29 rfl rfl (by kernel_rfl) rfl (obt_one (.slice (some ⟨g1, o1, none⟩) C k1) rfl rfl (srt_j 32 rfl (by kernel_rfl) rfl) (fun ρ w2 hS hx => by have hc := below_cell hS hg HCR.out; go_simp)),
            obg_yes 29 rfl rfl (by kernel_rfl) rfl (obt_one (.int .i64 ((C : Int))) rfl rfl (srt_j 33 rfl (by kernel_rfl) rfl) (fun ρ w2 hS hx => by go_simp)),
            obg_yes 29 rfl rfl (by kernel_rfl) rfl (obt_move (.slice (some ⟨g2, o2, none⟩) n cg) rfl rfl rfl (srt_b 1 rfl)),
            obg_yes 29 rfl rfl (by kernel_rfl) rfl (obt_two (.pointer (some ⟨g2, o2, none⟩)) rfl rfl (srt_j 35 rfl (by kernel_rfl) rfl) (srt_c (v := .int .i64 0)) (fun ρ w2 hS hx hy => by go_simp)),
            obg_yes 29 rfl rfl (by kernel_rfl) rfl (obt_one (.slice a2 C2 c2) rfl rfl (srt_j 36 rfl (by kernel_rfl) rfl) (fun ρ w2 hS hx => by have hc := below_cell hS hg2 HCR2.out; go_simp)),
            obg_yes 29 rfl rfl (by kernel_rfl) rfl (obt_one (.int .i64 ((C2 : Int))) rfl rfl (srt_j 37 rfl (by kernel_rfl) rfl) (fun ρ w2 hS hx => by go_simp)),
            obg_yes 29 rfl rfl (by kernel_rfl) rfl (obt_two (.int .i64 ((C : Int) - (C2 : Int))) rfl rfl (srt_j 34 rfl (by kernel_rfl) rfl) (srt_j 38 rfl (by kernel_rfl) rfl) (fun ρ w2 hS hx hy => by go_simp)),
            obg_yes 29 rfl rfl (by kernel_rfl) rfl (obt_call hst [.int .i64 x, .int .i64 0, .int .i64 ((C : Int) - (C2 : Int))] rfl Try.func57 (by kernel_rfl) (by kernel_rfl) rfl ⟨(srt_j 30 rfl (by kernel_rfl) rfl), (srt_c (v := .int .i64 0)), (srt_j 39 rfl (by kernel_rfl) rfl), trivial⟩ (fun w2 hS => (l01In_any x 0 ((C : Int) - C2) w2).mono fun e w3 ⟨he, hw⟩ => ⟨_, he.trans (by rw [HX.out]), hw ▸ hS, hw ▸ Below.refl _ _, rfl⟩)),
            obg_yes 29 rfl rfl (by kernel_rfl) rfl (obt_one (.bool false) rfl rfl (srt_j 40 rfl (by kernel_rfl) rfl) (fun ρ w2 hS hx => by go_simp)),
            obg_of rfl (obt_pick_f (.bool false) rfl rfl rfl (srt_j 29 rfl (by kernel_rfl) rfl) (srt_j 41 rfl (by kernel_rfl) rfl)),
            obg_of rfl (obt_move (.bool false) rfl rfl rfl (srt_j 42 rfl (by kernel_rfl) rfl)),
            obg_yes 43 rfl rfl (by kernel_rfl) rfl (obt_move (.slice (some ⟨g2, o2, none⟩) n cg) rfl rfl rfl (srt_b 1 rfl)),
            obg_yes 43 rfl rfl (by kernel_rfl) rfl (obt_two (.pointer (some ⟨g2, o2, none⟩)) rfl rfl (srt_j 44 rfl (by kernel_rfl) rfl) (srt_c (v := .int .i64 0)) (fun ρ w2 hS hx hy => by go_simp)),
            obg_yes 43 rfl rfl (by kernel_rfl) rfl (obt_one (.slice a2 C2 c2) rfl rfl (srt_j 45 rfl (by kernel_rfl) rfl) (fun ρ w2 hS hx => by have hc := below_cell hS hg2 HCR2.out; go_simp)),
            obg_yes 43 rfl rfl (by kernel_rfl) rfl (obt_one (.int .i64 ((C2 : Int))) rfl rfl (srt_j 46 rfl (by kernel_rfl) rfl) (fun ρ w2 hS hx => by go_simp)),
            obg_yes 43 rfl rfl (by kernel_rfl) rfl (obt_two (.bool true) rfl rfl (srt_j 47 rfl (by kernel_rfl) rfl) (srt_c (v := .int .i64 0)) (fun ρ w2 hS hx hy => by go_simp)),
            trivial⟩
        case fin =>
          intro a' w' h1 h2 h3 hS h4 K hK
          have ha := frame_ov rfl h1 h2 h3 ((15, .slice (some ⟨g, o, none⟩) R cap) :: (16, .bool true) :: (17, .bool false) :: (18, .bool false) :: (19, .slice (some ⟨g2, o2, none⟩) n cg) :: (20, .int .i64 ((n : Int))) :: (21, .bool false) :: (22, .bool false) :: (23, .bool false) :: (24, .slice (some ⟨g2, o2, none⟩) n cg) :: (25, .slice (some ⟨g2, o2, none⟩) n cg) :: (26, .int .i64 ((n : Int))) :: (27, .slice (some ⟨g2, o2, none⟩) n cg) :: (28, .pointer (some ⟨g2, o2, none⟩)) :: (29, .slice a2 C2 c2) :: (30, .int .i64 ((C2 : Int))) :: (31, .bool true) :: (32, .bool false) :: (33, .bool false) :: (34, .bool false) :: (35, .int .i64 y) :: (36, .slice (some ⟨g, o, none⟩) R cap) :: (37, .int .i64 ((R : Int))) :: (38, .slice (some ⟨g2, o2, none⟩) n cg) :: (39, .int .i64 ((n : Int))) :: (40, .int .i64 ((R : Int) - (n : Int))) :: (41, .bool true) :: (42, .bool false) :: (43, .bool false) :: (44, .bool false) :: (45, .int .i64 x) :: (46, .slice (some ⟨g, o, none⟩) R cap) :: (47, .pointer (some ⟨g, o, none⟩)) :: (48, .slice (some ⟨g1, o1, none⟩) C k1) :: (49, .int .i64 ((C : Int))) :: (50, .slice (some ⟨g2, o2, none⟩) n cg) :: (51, .pointer (some ⟨g2, o2, none⟩)) :: (52, .slice a2 C2 c2) :: (53, .int .i64 ((C2 : Int))) :: (54, .int .i64 ((C : Int) - (C2 : Int))) :: (55, .bool true) :: (56, .bool false) :: (57, .bool false) :: (58, .bool false) :: (59, .slice (some ⟨g2, o2, none⟩) n cg) :: (60, .pointer (some ⟨g2, o2, none⟩)) :: (61, .slice a2 C2 c2) :: (62, .int .i64 ((C2 : Int))) :: (63, .bool true) :: (64, a'.tmps.getD 64 undef) :: []) (by kernel_rfl) ⟨h4 0 15 rfl (by decide), h4 1 16 rfl (by decide), h4 2 17 rfl (by decide), h4 3 18 rfl (by decide), h4 4 19 rfl (by decide), h4 5 20 rfl (by decide), h4 6 21 rfl (by decide), h4 7 22 rfl (by decide), h4 8 23 rfl (by decide), h4 9 24 rfl (by decide), h4 10 25 rfl (by decide), h4 11 26 rfl (by decide), h4 12 27 rfl (by decide), h4 13 28 rfl (by decide), h4 14 29 rfl (by decide), h4 15 30 rfl (by decide), h4 16 31 rfl (by decide), h4 17 32 rfl (by decide), h4 18 33 rfl (by decide), h4 19 34 rfl (by decide), h4 20 35 rfl (by decide), h4 21 36 rfl (by decide), h4 22 37 rfl (by decide), h4 23 38 rfl (by decide), h4 24 39 rfl (by decide), h4 25 40 rfl (by decide), h4 26 41 rfl (by decide), h4 27 42 rfl (by decide), h4 28 43 rfl (by decide), h4 29 44 rfl (by decide), h4 30 45 rfl (by decide), h4 31 46 rfl (by decide), h4 32 47 rfl (by decide), h4 33 48 rfl (by decide), h4 34 49 rfl (by decide), h4 35 50 rfl (by decide), h4 36 51 rfl (by decide), h4 37 52 rfl (by decide), h4 38 53 rfl (by decide), h4 39 54 rfl (by decide), h4 40 55 rfl (by decide), h4 41 56 rfl (by decide), h4 42 57 rfl (by decide), h4 43 58 rfl (by decide), h4 44 59 rfl (by decide), h4 45 60 rfl (by decide), h4 46 61 rfl (by decide), h4 47 62 rfl (by decide), h4 48 63 rfl (by decide), rfl, trivial⟩
          dsimp only [ov, List.lookup, Nat.reduceBEq, Nat.reduceAdd] at ha
          refine run_value (.bool true) (exec_pick_f (v := .bool true) rfl (h4 43 58 rfl (by decide)) (h4 48 63 rfl (by decide))) (hK (.bool true) _ ?_)
          show Exit.then _ _ Exit.normal (Act.put a' (some 64) (.bool true)) _
          rw [ha]
          generalize a'.tmps.getD 64 undef = u64
          clear ha h1 h2 h3 h4 hst hK
          go_wp2
          go_ret2
          exact ⟨_, rfl, ownMat_nil _ _ _, hS⟩
      · have HX := hide (decide_eq_false hx)
        clear hsz h hy hx hc2
        go_enter Try.func39, Try.ntmps39
        go_upto_region 1 with fail
        obtain ⟨fs, hfs⟩ : ∃ fs : List FactP, fs = (((isV (.slice (some ⟨g, o, none⟩) R cap))) :: ((isV (.bool true))) :: ((isV (.bool false))) :: ((isV (.bool false))) :: ((isV (.slice (some ⟨g2, o2, none⟩) n cg))) :: ((isV (.int .i64 ((n : Int))))) :: ((isV (.bool false))) :: ((isV (.bool false))) :: ((isV (.bool false))) :: ((isV (.slice (some ⟨g2, o2, none⟩) n cg))) :: ((isV (.slice (some ⟨g2, o2, none⟩) n cg))) :: ((isV (.int .i64 ((n : Int))))) :: ((isV (.slice (some ⟨g2, o2, none⟩) n cg))) :: ((isV (.pointer (some ⟨g2, o2, none⟩)))) :: ((isV (.slice a2 C2 c2))) :: ((isV (.int .i64 ((C2 : Int))))) :: ((isV (.bool true))) :: ((isV (.bool false))) :: ((isV (.bool false))) :: ((isV (.bool false))) :: ((isV (.int .i64 y))) :: ((isV (.slice (some ⟨g, o, none⟩) R cap))) :: ((isV (.int .i64 ((R : Int))))) :: ((isV (.slice (some ⟨g2, o2, none⟩) n cg))) :: ((isV (.int .i64 ((n : Int))))) :: ((isV (.int .i64 ((R : Int) - (n : Int))))) :: ((isV (.bool true))) :: ((isV (.bool false))) :: ((isV (.bool false))) :: ((isV (.bool false))) :: ((isV (.int .i64 x))) :: ((isV (.slice (some ⟨g, o, none⟩) R cap))) :: ((isV (.pointer (some ⟨g, o, none⟩)))) :: ((isV (.slice (some ⟨g1, o1, none⟩) C k1))) :: ((isV (.int .i64 ((C : Int))))) :: ((isV (.slice (some ⟨g2, o2, none⟩) n cg))) :: ((isV (.pointer (some ⟨g2, o2, none⟩)))) :: ((isV (.slice a2 C2 c2))) :: ((isV (.int .i64 ((C2 : Int))))) :: ((isV (.int .i64 ((C : Int) - (C2 : Int))))) :: ((isV (.bool false))) :: ((isV (.bool true))) :: ((isV (.bool true))) :: ((isV (.bool true))) :: ((isV (undef))) :: ((isV (undef))) :: ((isV (undef))) :: ((isV (undef))) :: ((isV (undef))) :: []) := ⟨_, rfl⟩
        have hst : ∀ f ∈ fs, StableP f := by
          rw [hfs]; intro f hf
          simp only [List.mem_cons, List.not_mem_nil, or_false] at hf
          rcases hf with rfl | rfl | rfl | rfl | rfl | rfl | rfl | rfl | rfl | rfl | rfl | rfl | rfl | rfl | rfl | rfl | rfl | rfl | rfl | rfl | rfl | rfl | rfl | rfl | rfl | rfl | rfl | rfl | rfl | rfl | rfl | rfl | rfl | rfl | rfl | rfl | rfl | rfl | rfl | rfl | rfl | rfl | rfl | rfl | rfl | rfl | rfl | rfl | rfl <;> exact stable_v _
        subst hfs
        refine wp_region_g (S := fun w2 => Below w.heap.size w w2) (((isV (.slice (some ⟨g, o, none⟩) R cap))) :: ((isV (.bool true))) :: ((isV (.bool false))) :: ((isV (.bool false))) :: ((isV (.slice (some ⟨g2, o2, none⟩) n cg))) :: ((isV (.int .i64 ((n : Int))))) :: ((isV (.bool false))) :: ((isV (.bool false))) :: ((isV (.bool false))) :: ((isV (.slice (some ⟨g2, o2, none⟩) n cg))) :: ((isV (.slice (some ⟨g2, o2, none⟩) n cg))) :: ((isV (.int .i64 ((n : Int))))) :: ((isV (.slice (some ⟨g2, o2, none⟩) n cg))) :: ((isV (.pointer (some ⟨g2, o2, none⟩)))) :: ((isV (.slice a2 C2 c2))) :: ((isV (.int .i64 ((C2 : Int))))) :: ((isV (.bool true))) :: ((isV (.bool false))) :: ((isV (.bool false))) :: ((isV (.bool false))) :: ((isV (.int .i64 y))) :: ((isV (.slice (some ⟨g, o, none⟩) R cap))) :: ((isV (.int .i64 ((R : Int))))) :: ((isV (.slice (some ⟨g2, o2, none⟩) n cg))) :: ((isV (.int .i64 ((n : Int))))) :: ((isV (.int .i64 ((R : Int) - (n : Int))))) :: ((isV (.bool true))) :: ((isV (.bool false))) :: ((isV (.bool false))) :: ((isV (.bool false))) :: ((isV (.int .i64 x))) :: ((isV (.slice (some ⟨g, o, none⟩) R cap))) :: ((isV (.pointer (some ⟨g, o, none⟩)))) :: ((isV (.slice (some ⟨g1, o1, none⟩) C k1))) :: ((isV (.int .i64 ((C : Int))))) :: ((isV (.slice (some ⟨g2, o2, none⟩) n cg))) :: ((isV (.pointer (some ⟨g2, o2, none⟩)))) :: ((isV (.slice a2 C2 c2))) :: ((isV (.int .i64 ((C2 : Int))))) :: ((isV (.int .i64 ((C : Int) - (C2 : Int))))) :: ((isV (.bool false))) :: ((isV (.bool true))) :: ((isV (.bool true))) :: ((isV (.bool true))) :: ((isV (undef))) :: ((isV (undef))) :: ((isV (undef))) :: ((isV (undef))) :: ((isV (undef))) :: []) [(0, .slice (some ⟨g, o, none⟩) R cap), (1, .slice (some ⟨g2, o2, none⟩) n cg), (2, .int .i64 y), (3, .int .i64 x)] _ _ 49 (by kernel_rfl) rfl rfl (by kernel_rfl) (by kernel_rfl) rfl (by kernel_rfl) ?base (below_drew (Below.refl _ _)) ?ob rfl ?fin
        case base =>
          intro t v ht
          simp only [List.lookup_cons, List.lookup_nil] at ht
          repeat' split at ht
          all_goals first | (cases ht; done) | (obtain rfl := Option.some.inj ht; rename_i hh; obtain rfl := eq_of_beq hh; rfl)
        case ob =>
          exact ⟨obg_of rfl (obt_move (.slice (some ⟨g, o, none⟩) R cap) rfl rfl rfl (srt_b 0 rfl)),
            obg_of rfl (obt_call hst [.slice (some ⟨g, o, none⟩) R cap] rfl Try.func80 (by kernel_rfl) (by kernel_rfl) rfl ⟨(srt_j 0 rfl (by kernel_rfl) rfl), trivial⟩ (fun w2 hS => (HOK.out w2 hS).mono fun e w3 ⟨he, hw⟩ => ⟨_, he, hw ▸ hS, hw ▸ Below.refl _ _, rfl⟩)),
            obg_of rfl (obt_one (.bool false) rfl rfl (srt_j 1 rfl (by kernel_rfl) rfl) (fun ρ w2 hS hx => by go_simp)),
            obg_of rfl (obt_move (.bool false) rfl rfl rfl (srt_j 2 rfl (by kernel_rfl) rfl)),
            obg_yes 3 rfl rfl (by kernel_rfl) rfl (obt_move (.slice (some ⟨g2, o2, none⟩) n cg) rfl rfl rfl (srt_b 1 rfl)),
            obg_yes 3 rfl rfl (by kernel_rfl) rfl (obt_one (.int .i64 ((n : Int))) rfl rfl (srt_j 4 rfl (by kernel_rfl) rfl) (fun ρ w2 hS hx => by go_simp)),
            obg_yes 3 rfl rfl (by kernel_rfl) rfl (obt_two (.bool false) rfl rfl (srt_j 5 rfl (by kernel_rfl) rfl) (srt_c (v := .int .i64 0)) (fun ρ w2 hS hx hy => by go_simp)),
            obg_of rfl (obt_pick_f (.bool false) rfl rfl rfl (srt_j 3 rfl (by kernel_rfl) rfl) (srt_j 6 rfl (by kernel_rfl) rfl)),
            obg_of rfl (obt_move (.bool false) rfl rfl rfl (srt_j 7 rfl (by kernel_rfl) rfl)),
            obg_yes 8 rfl rfl (by kernel_rfl) rfl (obt_move (.slice (some ⟨g2, o2, none⟩) n cg) rfl rfl rfl (srt_b 1 rfl)),
            obg_yes 8 rfl rfl (by kernel_rfl) rfl (obt_move (.slice (some ⟨g2, o2, none⟩) n cg) rfl rfl rfl (srt_b 1 rfl)),
            obg_yes 8 rfl rfl (by kernel_rfl) rfl (obt_one (.int .i64 ((n : Int))) rfl rfl (srt_j 10 rfl (by kernel_rfl) rfl) (fun ρ w2 hS hx => by go_simp)),
            obg_yes 8 rfl rfl (by kernel_rfl) rfl (obt_move (.slice (some ⟨g2, o2, none⟩) n cg) rfl rfl rfl (srt_b 1 rfl)),
            obg_yes 8 rfl rfl (by kernel_rfl) rfl (obt_two (.pointer (some ⟨g2, o2, none⟩)) rfl rfl (srt_j 12 rfl (by kernel_rfl) rfl) (srt_c (v := .int .i64 0)) (fun ρ w2 hS hx hy => by go_simp)),
            obg_yes 8 rfl rfl (by kernel_rfl) rfl (obt_one (.slice a2 C2 c2) rfl rfl (srt_j 13 rfl (by kernel_rfl) rfl) (fun ρ w2 hS hx => by have hc := below_cell hS hg2 HCR2.out; go_simp)),
            obg_yes 8 rfl rfl (by kernel_rfl) rfl (obt_one (.int .i64 ((C2 : Int))) rfl rfl (srt_j 14 rfl (by kernel_rfl) rfl) (fun ρ w2 hS hx => by go_simp)),
            obg_yes 8 rfl rfl (by kernel_rfl) rfl (obt_call hst [.slice (some ⟨g2, o2, none⟩) n cg, .int .i64 ((n : Int)), .int .i64 ((C2 : Int)), .int .i64 (-9223372036854775807), .int .i64 9223372036854775807] rfl Try.func81 (by kernel_rfl) (by kernel_rfl) rfl ⟨(srt_j 9 rfl (by kernel_rfl) rfl), (srt_j 11 rfl (by kernel_rfl) rfl), (srt_j 15 rfl (by kernel_rfl) rfl), (srt_c (v := .int .i64 (-9223372036854775807))), (srt_c (v := .int .i64 9223372036854775807)), trivial⟩ (fun w2 hS => (HSZ.out w2 hS).mono fun e w3 ⟨he, hw⟩ => ⟨_, he, hw ▸ hS, hw ▸ Below.refl _ _, rfl⟩)),
            obg_yes 8 rfl rfl (by kernel_rfl) rfl (obt_one (.bool false) rfl rfl (srt_j 16 rfl (by kernel_rfl) rfl) (fun ρ w2 hS hx => by go_simp)),
            obg_of rfl (obt_pick_f (.bool false) rfl rfl rfl (srt_j 8 rfl (by kernel_rfl) rfl) (srt_j 17 rfl (by kernel_rfl) rfl)),
            obg_of rfl (obt_move (.bool false) rfl rfl rfl (srt_j 18 rfl (by kernel_rfl) rfl)),
            obg_yes 19 rfl rfl (by kernel_rfl) rfl (obt_move (.int .i64 y) rfl rfl rfl (srt_b 2 rfl)),
            obg_yes 19 rfl rfl (by kernel_rfl) rfl (obt_move (.slice (some ⟨g, o, none⟩) R cap) rfl rfl rfl (srt_b 0 rfl)),
            obg_yes 19 rfl rfl (by kernel_rfl) rfl (obt_one (.int .i64 ((R : Int))) rfl rfl (srt_j 21 rfl (by kernel_rfl) rfl) (fun ρ w2 hS hx => by go_simp)),
            obg_yes 19 rfl rfl (by kernel_rfl) rfl (obt_move (.slice (some ⟨g2, o2, none⟩) n cg) rfl rfl rfl (srt_b 1 rfl)),
            obg_yes 19 rfl rfl (by kernel_rfl) rfl (obt_one (.int .i64 ((n : Int))) rfl rfl (srt_j 23 rfl (by kernel_rfl) rfl) (fun ρ w2 hS hx => by go_simp)),
            obg_yes 19 rfl rfl (by kernel_rfl) rfl (obt_two (.int .i64 ((R : Int) - (n : Int))) rfl rfl (srt_j 22 rfl (by kernel_rfl) rfl) (srt_j 24 rfl (by kernel_rfl) rfl) (fun ρ w2 hS hx hy => by go_simp)),
            obg_yes 19 rfl rfl (by kernel_rfl) rfl (obt_call hst [.int .i64 y, .int .i64 0, .int .i64 ((R : Int) - (n : Int))] rfl Try.func57 (by kernel_rfl) (by kernel_rfl) rfl ⟨(srt_j 20 rfl (by kernel_rfl) rfl), (srt_c (v := .int .i64 0)), (srt_j 25 rfl (by kernel_rfl) rfl), trivial⟩ (fun w2 hS => (l01In_any y 0 ((R : Int) - n) w2).mono fun e w3 ⟨he, hw⟩ => ⟨_, he.trans (by rw [HY.out]), hw ▸ hS, hw ▸ Below.refl _ _, rfl⟩)),
            obg_yes 19 rfl rfl (by kernel_rfl) rfl (obt_one (.bool false) rfl rfl (srt_j 26 rfl (by kernel_rfl) rfl) (fun ρ w2 hS hx => by go_simp)),
            obg_of rfl (obt_pick_f (.bool false) rfl rfl rfl (srt_j 19 rfl (by kernel_rfl) rfl) (srt_j 27 rfl (by kernel_rfl) rfl)),
            obg_of rfl (obt_move (.bool false) rfl rfl rfl (srt_j 28 rfl (by kernel_rfl) rfl)),
            obg_yes 29 rfl rfl (by kernel_rfl) rfl (obt_move (.int .i64 x) rfl rfl rfl (srt_b 3 rfl)),
            obg_yes 29 rfl rfl (by kernel_rfl) rfl (obt_move (.slice (some ⟨g, o, none⟩) R cap) rfl rfl rfl (srt_b 0 rfl)),
            obg_yes 29 rfl rfl (by kernel_rfl) rfl (obt_two (.pointer (some ⟨g, o, none⟩)) rfl rfl (srt_j 31 rfl (by kernel_rfl) rfl) (srt_c (v := .int .i64 0)) (fun ρ w2 hS hx hy => by go_simp)),
            obg_yes 29 rfl rfl (by kernel_rfl) rfl (obt_one (.slice (some ⟨g1, o1, none⟩) C k1) rfl rfl (srt_j 32 rfl (by kernel_rfl) rfl) (fun ρ w2 hS hx => by have hc := below_cell hS hg HCR.out; go_simp)),
            obg_yes 29 rfl rfl (by kernel_rfl) rfl (obt_one (.int .i64 ((C : Int))) rfl rfl (srt_j 33 rfl (by kernel_rfl) rfl) (fun ρ w2 hS hx => by go_simp)),
            obg_yes 29 rfl rfl (by kernel_rfl) rfl (obt_move (.slice (some ⟨g2, o2, none⟩) n cg) rfl rfl rfl (srt_b 1 rfl)),
            obg_yes 29 rfl rfl (by kernel_rfl) rfl (obt_two (.pointer (some ⟨g2, o2, none⟩)) rfl rfl (srt_j 35 rfl (by kernel_rfl) rfl) (srt_c (v := .int .i64 0)) (fun ρ w2 hS hx hy => by go_simp)),
            obg_yes 29 rfl rfl (by kernel_rfl) rfl (obt_one (.slice a2 C2 c2) rfl rfl (srt_j 36 rfl (by kernel_rfl) rfl) (fun ρ w2 hS hx => by have hc := below_cell hS hg2 HCR2.out; go_simp)),
            obg_yes 29 rfl rfl (by kernel_rfl) rfl (obt_one (.int .i64 ((C2 : Int))) rfl rfl (srt_j 37 rfl (by kernel_rfl) rfl) (fun ρ w2 hS hx => by go_simp)),
            obg_yes 29 rfl rfl (by kernel_rfl) rfl (obt_two (.int .i64 ((C : Int) - (C2 : Int))) rfl rfl (srt_j 34 rfl (by kernel_rfl) rfl) (srt_j 38 rfl (by kernel_rfl) rfl) (fun ρ w2 hS hx hy => by go_simp)),
            obg_yes 29 rfl rfl (by kernel_rfl) rfl (obt_call hst [.int .i64 x, .int .i64 0, .int .i64 ((C : Int) - (C2 : Int))] rfl Try.func57 (by kernel_rfl) (by kernel_rfl) rfl ⟨(srt_j 30 rfl (by kernel_rfl) rfl), (srt_c (v := .int .i64 0)), (srt_j 39 rfl (by kernel_rfl) rfl), trivial⟩ (fun w2 hS => (l01In_any x 0 ((C : Int) - C2) w2).mono fun e w3 ⟨he, hw⟩ => ⟨_, he.trans (by rw [HX.out]), hw ▸ hS, hw ▸ Below.refl _ _, rfl⟩)),
            obg_yes 29 rfl rfl (by kernel_rfl) rfl (obt_one (.bool true) rfl rfl (srt_j 40 rfl (by kernel_rfl) rfl) (fun ρ w2 hS hx => by go_simp)),
            obg_of rfl (obt_pick_f (.bool true) rfl rfl rfl (srt_j 29 rfl (by kernel_rfl) rfl) (srt_j 41 rfl (by kernel_rfl) rfl)),
            obg_of rfl (obt_move (.bool true) rfl rfl rfl (srt_j 42 rfl (by kernel_rfl) rfl)),
            obg_no 43 rfl rfl (by kernel_rfl) rfl rfl,
            obg_no 43 rfl rfl (by kernel_rfl) rfl rfl,
            obg_no 43 rfl rfl (by kernel_rfl) rfl rfl,
            obg_no 43 rfl rfl (by kernel_rfl) rfl rfl,
            obg_no 43 rfl rfl (by kernel_rfl) rfl rfl,
            trivial⟩
        case fin =>
          intro a' w' h1 h2 h3 hS h4 K hK
          have ha := frame_ov rfl h1 h2 h3 ((15, .slice (some ⟨g, o, none⟩) R cap) :: (16, .bool true) :: (17, .bool false) :: (18, .bool false) :: (19, .slice (some ⟨g2, o2, none⟩) n cg) :: (20, .int .i64 ((n : Int))) :: (21, .bool false) :: (22, .bool false) :: (23, .bool false) :: (24, .slice (some ⟨g2, o2, none⟩) n cg) :: (25, .slice (some ⟨g2, o2, none⟩) n cg) :: (26, .int .i64 ((n : Int))) :: (27, .slice (some ⟨g2, o2, none⟩) n cg) :: (28, .pointer (some ⟨g2, o2, none⟩)) :: (29, .slice a2 C2 c2) :: (30, .int .i64 ((C2 : Int))) :: (31, .bool true) :: (32, .bool false) :: (33, .bool false) :: (34, .bool false) :: (35, .int .i64 y) :: (36, .slice (some ⟨g, o, none⟩) R cap) :: (37, .int .i64 ((R : Int))) :: (38, .slice (some ⟨g2, o2, none⟩) n cg) :: (39, .int .i64 ((n : Int))) :: (40, .int .i64 ((R : Int) - (n : Int))) :: (41, .bool true) :: (42, .bool false) :: (43, .bool false) :: (44, .bool false) :: (45, .int .i64 x) :: (46, .slice (some ⟨g, o, none⟩) R cap) :: (47, .pointer (some ⟨g, o, none⟩)) :: (48, .slice (some ⟨g1, o1, none⟩) C k1) :: (49, .int .i64 ((C : Int))) :: (50, .slice (some ⟨g2, o2, none⟩) n cg) :: (51, .pointer (some ⟨g2, o2, none⟩)) :: (52, .slice a2 C2 c2) :: (53, .int .i64 ((C2 : Int))) :: (54, .int .i64 ((C : Int) - (C2 : Int))) :: (55, .bool false) :: (56, .bool true) :: (57, .bool true) :: (58, .bool true) :: (59, undef) :: (60, undef) :: (61, undef) :: (62, undef) :: (63, undef) :: (64, a'.tmps.getD 64 undef) :: []) (by kernel_rfl) ⟨h4 0 15 rfl (by decide), h4 1 16 rfl (by decide), h4 2 17 rfl (by decide), h4 3 18 rfl (by decide), h4 4 19 rfl (by decide), h4 5 20 rfl (by decide), h4 6 21 rfl (by decide), h4 7 22 rfl (by decide), h4 8 23 rfl (by decide), h4 9 24 rfl (by decide), h4 10 25 rfl (by decide), h4 11 26 rfl (by decide), h4 12 27 rfl (by decide), h4 13 28 rfl (by decide), h4 14 29 rfl (by decide), h4 15 30 rfl (by decide), h4 16 31 rfl (by decide), h4 17 32 rfl (by decide), h4 18 33 rfl (by decide), h4 19 34 rfl (by decide), h4 20 35 rfl (by decide), h4 21 36 rfl (by decide), h4 22 37 rfl (by decide), h4 23 38 rfl (by decide), h4 24 39 rfl (by decide), h4 25 40 rfl (by decide), h4 26 41 rfl (by decide), h4 27 42 rfl (by decide), h4 28 43 rfl (by decide), h4 29 44 rfl (by decide), h4 30 45 rfl (by decide), h4 31 46 rfl (by decide), h4 32 47 rfl (by decide), h4 33 48 rfl (by decide), h4 34 49 rfl (by decide), h4 35 50 rfl (by decide), h4 36 51 rfl (by decide), h4 37 52 rfl (by decide), h4 38 53 rfl (by decide), h4 39 54 rfl (by decide), h4 40 55 rfl (by decide), h4 41 56 rfl (by decide), h4 42 57 rfl (by decide), h4 43 58 rfl (by decide), h4 44 59 rfl (by decide), h4 45 60 rfl (by decide), h4 46 61 rfl (by decide), h4 47 62 rfl (by decide), h4 48 63 rfl (by decide), rfl, trivial⟩
          dsimp only [ov, List.lookup, Nat.reduceBEq, Nat.reduceAdd] at ha
          refine run_value (.bool true) (exec_pick_t (v := .bool true) rfl (h4 43 58 rfl (by decide)) (rfl)) (hK (.bool true) _ ?_)
          show Exit.then _ _ Exit.normal (Act.put a' (some 64) (.bool true)) _
          rw [ha]
          generalize a'.tmps.getD 64 undef = u64
          clear ha h1 h2 h3 h4 hst hK
          go_wp2
          go_ret2
          exact ⟨_, rfl, ownMat_nil _ _ _, hS⟩
    · have HY := hide (decide_eq_false hy)
      clear hsz h hy hc2
      go_enter Try.func39, Try.ntmps39
      go_upto_region 1 with fail
      obtain ⟨fs, hfs⟩ : ∃ fs : List FactP, fs = (((isV (.slice (some ⟨g, o, none⟩) R cap))) :: ((isV (.bool true))) :: ((isV (.bool false))) :: ((isV (.bool false))) :: ((isV (.slice (some ⟨g2, o2, none⟩) n cg))) :: ((isV (.int .i64 ((n : Int))))) :: ((isV (.bool false))) :: ((isV (.bool false))) :: ((isV (.bool false))) :: ((isV (.slice (some ⟨g2, o2, none⟩) n cg))) :: ((isV (.slice (some ⟨g2, o2, none⟩) n cg))) :: ((isV (.int .i64 ((n : Int))))) :: ((isV (.slice (some ⟨g2, o2, none⟩) n cg))) :: ((isV (.pointer (some ⟨g2, o2, none⟩)))) :: ((isV (.slice a2 C2 c2))) :: ((isV (.int .i64 ((C2 : Int))))) :: ((isV (.bool true))) :: ((isV (.bool false))) :: ((isV (.bool false))) :: ((isV (.bool false))) :: ((isV (.int .i64 y))) :: ((isV (.slice (some ⟨g, o, none⟩) R cap))) :: ((isV (.int .i64 ((R : Int))))) :: ((isV (.slice (some ⟨g2, o2, none⟩) n cg))) :: ((isV (.int .i64 ((n : Int))))) :: ((isV (.int .i64 ((R : Int) - (n : Int))))) :: ((isV (.bool false))) :: ((isV (.bool true))) :: ((isV (.bool true))) :: ((isV (.bool true))) :: ((isV (undef))) :: ((isV (undef))) :: ((isV (undef))) :: ((isV (undef))) :: ((isV (undef))) :: ((isV (undef))) :: ((isV (undef))) :: ((isV (undef))) :: ((isV (undef))) :: ((isV (undef))) :: ((isV (undef))) :: ((isV (undef))) :: ((isV (.bool true))) :: ((isV (.bool true))) :: ((isV (undef))) :: ((isV (undef))) :: ((isV (undef))) :: ((isV (undef))) :: ((isV (undef))) :: []) := ⟨_, rfl⟩
      have hst : ∀ f ∈ fs, StableP f := by
        rw [hfs]; intro f hf
        simp only [List.mem_cons, List.not_mem_nil, or_false] at hf
        rcases hf with rfl | rfl | rfl | rfl | rfl | rfl | rfl | rfl | rfl | rfl | rfl | rfl | rfl | rfl | rfl | rfl | rfl | rfl | rfl | rfl | rfl | rfl | rfl | rfl | rfl | rfl | rfl | rfl | rfl | rfl | rfl | rfl | rfl | rfl | rfl | rfl | rfl | rfl | rfl | rfl | rfl | rfl | rfl | rfl | rfl | rfl | rfl | rfl | rfl <;> exact stable_v _
      subst hfs
      refine wp_region_g (S := fun w2 => Below w.heap.size w w2) (((isV (.slice (some ⟨g, o, none⟩) R cap))) :: ((isV (.bool true))) :: ((isV (.bool false))) :: ((isV (.bool false))) :: ((isV (.slice (some ⟨g2, o2, none⟩) n cg))) :: ((isV (.int .i64 ((n : Int))))) :: ((isV (.bool false))) :: ((isV (.bool false))) :: ((isV (.bool false))) :: ((isV (.slice (some ⟨g2, o2, none⟩) n cg))) :: ((isV (.slice (some ⟨g2, o2, none⟩) n cg))) :: ((isV (.int .i64 ((n : Int))))) :: ((isV (.slice (some ⟨g2, o2, none⟩) n cg))) :: ((isV (.pointer (some ⟨g2, o2, none⟩)))) :: ((isV (.slice a2 C2 c2))) :: ((isV (.int .i64 ((C2 : Int))))) :: ((isV (.bool true))) :: ((isV (.bool false))) :: ((isV (.bool false))) :: ((isV (.bool false))) :: ((isV (.int .i64 y))) :: ((isV (.slice (some ⟨g, o, none⟩) R cap))) :: ((isV (.int .i64 ((R : Int))))) :: ((isV (.slice (some ⟨g2, o2, none⟩) n cg))) :: ((isV (.int .i64 ((n : Int))))) :: ((isV (.int .i64 ((R : Int) - (n : Int))))) :: ((isV (.bool false))) :: ((isV (.bool true))) :: ((isV (.bool true))) :: ((isV (.bool true))) :: ((isV (undef))) :: ((isV (undef))) :: ((isV (undef))) :: ((isV (undef))) :: ((isV (undef))) :: ((isV (undef))) :: ((isV (undef))) :: ((isV (undef))) :: ((isV (undef))) :: ((isV (undef))) :: ((isV (undef))) :: ((isV (undef))) :: ((isV (.bool true))) :: ((isV (.bool true))) :: ((isV (undef))) :: ((isV (undef))) :: ((isV (undef))) :: ((isV (undef))) :: ((isV (undef))) :: []) [(0, .slice (some ⟨g, o, none⟩) R cap), (1, .slice (some ⟨g2, o2, none⟩) n cg), (2, .int .i64 y)] _ _ 49 (by kernel_rfl) rfl rfl (by kernel_rfl) (by kernel_rfl) rfl (by kernel_rfl) ?base (below_drew (Below.refl _ _)) ?ob rfl ?fin
      case base =>
        intro t v ht
        simp only [List.lookup_cons, List.lookup_nil] at ht
        repeat' split at ht
        all_goals first | (cases ht; done) | (obtain rfl := Option.some.inj ht; rename_i hh; obtain rfl := eq_of_beq hh; rfl)
      case ob =>
        exact ⟨obg_of rfl (obt_move (.slice (some ⟨g, o, none⟩) R cap) rfl rfl rfl (srt_b 0 rfl)),
          obg_of rfl (obt_call hst [.slice (some ⟨g, o, none⟩) R cap] rfl Try.func80 (by kernel_rfl) (by kernel_rfl) rfl ⟨(srt_j 0 rfl (by kernel_rfl) rfl), trivial⟩ (fun w2 hS => (HOK.out w2 hS).mono fun e w3 ⟨he, hw⟩ => ⟨_, he, hw ▸ hS, hw ▸ Below.refl _ _, rfl⟩)),
          obg_of rfl (obt_one (.bool false) rfl rfl (srt_j 1 rfl (by kernel_rfl) rfl) (fun ρ w2 hS hx => by go_simp)),
          obg_of rfl (obt_move (.bool false) rfl rfl rfl (srt_j 2 rfl (by kernel_rfl) rfl)),
          obg_yes 3 rfl rfl (by kernel_rfl) rfl (obt_move (.slice (some ⟨g2, o2, none⟩) n cg) rfl rfl rfl (srt_b 1 rfl)),
          obg_yes 3 rfl rfl (by kernel_rfl) rfl (obt_one (.int .i64 ((n : Int))) rfl rfl (srt_j 4 rfl (by kernel_rfl) rfl) (fun ρ w2 hS hx => by go_simp)),
          obg_yes 3 rfl rfl (by kernel_rfl) rfl (obt_two (.bool false) rfl rfl (srt_j 5 rfl (by kernel_rfl) rfl) (srt_c (v := .int .i64 0)) (fun ρ w2 hS hx hy => by go_simp)),
          obg_of rfl (obt_pick_f (.bool false) rfl rfl rfl (srt_j 3 rfl (by kernel_rfl) rfl) (srt_j 6 rfl (by kernel_rfl) rfl)),
          obg_of rfl (obt_move (.bool false) rfl rfl rfl (srt_j 7 rfl (by kernel_rfl) rfl)),
          obg_yes 8 rfl rfl (by kernel_rfl) rfl (obt_move (.slice (some ⟨g2, o2, none⟩) n cg) rfl rfl rfl (srt_b 1 rfl)),
          obg_yes 8 rfl rfl (by kernel_rfl) rfl (obt_move (.slice (some ⟨g2, o2, none⟩) n cg) rfl rfl rfl (srt_b 1 rfl)),
          obg_yes 8 rfl rfl (by kernel_rfl) rfl (obt_one (.int .i64 ((n : Int))) rfl rfl (srt_j 10 rfl (by kernel_rfl) rfl) (fun ρ w2 hS hx => by go_simp)),
          obg_yes 8 rfl rfl (by kernel_rfl) rfl (obt_move (.slice (some ⟨g2, o2, none⟩) n cg) rfl rfl rfl (srt_b 1 rfl)),
          obg_yes 8 rfl rfl (by kernel_rfl) rfl (obt_two (.pointer (some ⟨g2, o2, none⟩)) rfl rfl (srt_j 12 rfl (by kernel_rfl) rfl) (srt_c (v := .int .i64 0)) (fun ρ w2 hS hx hy => by go_simp)),
          obg_yes 8 rfl rfl (by kernel_rfl) rfl (obt_one (.slice a2 C2 c2) rfl rfl (srt_j 13 rfl (by kernel_rfl) rfl) (fun ρ w2 hS hx => by have hc := below_cell hS hg2 HCR2.out; go_simp)),
          obg_yes 8 rfl rfl (by kernel_rfl) rfl (obt_one (.int .i64 ((C2 : Int))) rfl rfl (srt_j 14 rfl (by kernel_rfl) rfl) (fun ρ w2 hS hx => by go_simp)),
          obg_yes 8 rfl rfl (by kernel_rfl) rfl (obt_call hst [.slice (some ⟨g2, o2, none⟩) n cg, .int .i64 ((n : Int)), .int .i64 ((C2 : Int)), .int .i64 (-9223372036854775807), .int .i64 9223372036854775807] rfl Try.func81 (by kernel_rfl) (by kernel_rfl) rfl ⟨(srt_j 9 rfl (by kernel_rfl) rfl), (srt_j 11 rfl (by kernel_rfl) rfl), (srt_j 15 rfl (by kernel_rfl) rfl), (srt_c (v := .int .i64 (-9223372036854775807))), (srt_c (v := .int .i64 9223372036854775807)), trivial⟩ (fun w2 hS => (HSZ.out w2 hS).mono fun e w3 ⟨he, hw⟩ => ⟨_, he, hw ▸ hS, hw ▸ Below.refl _ _, rfl⟩)),
          obg_yes 8 rfl rfl (by kernel_rfl) rfl (obt_one (.bool false) rfl rfl (srt_j 16 rfl (by kernel_rfl) rfl) (fun ρ w2 hS hx => by go_simp)),
          obg_of rfl (obt_pick_f (.bool false) rfl rfl rfl (srt_j 8 rfl (by kernel_rfl) rfl) (srt_j 17 rfl (by kernel_rfl) rfl)),
          obg_of rfl (obt_move (.bool false) rfl rfl rfl (srt_j 18 rfl (by kernel_rfl) rfl)),
          obg_yes 19 rfl rfl (by kernel_rfl) rfl (obt_move (.int .i64 y) rfl rfl rfl (srt_b 2 rfl)),
          obg_yes 19 rfl rfl (by kernel_rfl) rfl (obt_move (.slice (some ⟨g, o, none⟩) R cap) rfl rfl rfl (srt_b 0 rfl)),
          obg_yes 19 rfl rfl (by kernel_rfl) rfl (obt_one (.int .i64 ((R : Int))) rfl rfl (srt_j 21 rfl (by kernel_rfl) rfl) (fun ρ w2 hS hx => by go_simp)),
          obg_yes 19 rfl rfl (by kernel_rfl) rfl (obt_move (.slice (some ⟨g2, o2, none⟩) n cg) rfl rfl rfl (srt_b 1 rfl)),
          obg_yes 19 rfl rfl (by kernel_rfl) rfl (obt_one (.int .i64 ((n : Int))) rfl rfl (srt_j 23 rfl (by kernel_rfl) rfl) (fun ρ w2 hS hx => by go_simp)),
          obg_yes 19 rfl rfl (by kernel_rfl) rfl (obt_two (.int .i64 ((R : Int) - (n : Int))) rfl rfl (srt_j 22 rfl (by kernel_rfl) rfl) (srt_j 24 rfl (by kernel_rfl) rfl) (fun ρ w2 hS hx hy => by go_simp)),
          obg_yes 19 rfl rfl (by kernel_rfl) rfl (obt_call hst [.int .i64 y, .int .i64 0, .int .i64 ((R : Int) - (n : Int))] rfl Try.func57 (by kernel_rfl) (by kernel_rfl) rfl ⟨(srt_j 20 rfl (by kernel_rfl) rfl), (srt_c (v := .int .i64 0)), (srt_j 25 rfl (by kernel_rfl) rfl), trivial⟩ (fun w2 hS => (l01In_any y 0 ((R : Int) - n) w2).mono fun e w3 ⟨he, hw⟩ => ⟨_, he.trans (by rw [HY.out]), hw ▸ hS, hw ▸ Below.refl _ _, rfl⟩)),
          obg_yes 19 rfl rfl (by kernel_rfl) rfl (obt_one (.bool true) rfl rfl (srt_j 26 rfl (by kernel_rfl) rfl) (fun ρ w2 hS hx => by go_simp)),
          obg_of rfl (obt_pick_f (.bool true) rfl rfl rfl (srt_j 19 rfl (by kernel_rfl) rfl) (srt_j 27 rfl (by kernel_rfl) rfl)),
          obg_of rfl (obt_move (.bool true) rfl rfl rfl (srt_j 28 rfl (by kernel_rfl) rfl)),
          obg_no 29 rfl rfl (by kernel_rfl) rfl rfl,
          obg_no 29 rfl rfl (by kernel_rfl) rfl rfl,
          obg_no 29 rfl rfl (by kernel_rfl) rfl rfl,
          obg_no 29 rfl rfl (by kernel_rfl) rfl rfl,
          obg_no 29 rfl rfl (by kernel_rfl) rfl rfl,
          obg_no 29 rfl rfl (by kernel_rfl) rfl rfl,
          obg_no 29 rfl rfl (by kernel_rfl) rfl rfl,
          obg_no 29 rfl rfl (by kernel_rfl) rfl rfl,
          obg_no 29 rfl rfl (by kernel_rfl) rfl rfl,
          obg_no 29 rfl rfl (by kernel_rfl) rfl rfl,
          obg_no 29 rfl rfl (by kernel_rfl) rfl rfl,
          obg_no 29 rfl rfl (by kernel_rfl) rfl rfl,
          obg_of rfl (obt_pick_t (.bool true) rfl rfl rfl (srt_j 29 rfl (by kernel_rfl) rfl) (srt_c (v := .bool true))),
          obg_of rfl (obt_move (.bool true) rfl rfl rfl (srt_j 42 rfl (by kernel_rfl) rfl)),
          obg_no 43 rfl rfl (by kernel_rfl) rfl rfl,
          obg_no 43 rfl rfl (by kernel_rfl) rfl rfl,
          obg_no 43 rfl rfl (by kernel_rfl) rfl rfl,
          obg_no 43 rfl rfl (by kernel_rfl) rfl rfl,
          obg_no 43 rfl rfl (by kernel_rfl) rfl rfl,
          trivial⟩
      case fin =>
        intro a' w' h1 h2 h3 hS h4 K hK
        have ha := frame_ov rfl h1 h2 h3 ((15, .slice (some ⟨g, o, none⟩) R cap) :: (16, .bool true) :: (17, .bool false) :: (18, .bool false) :: (19, .slice (some ⟨g2, o2, none⟩) n cg) :: (20, .int .i64 ((n : Int))) :: (21, .bool false) :: (22, .bool false) :: (23, .bool false) :: (24, .slice (some ⟨g2, o2, none⟩) n cg) :: (25, .slice (some ⟨g2, o2, none⟩) n cg) :: (26, .int .i64 ((n : Int))) :: (27, .slice (some ⟨g2, o2, none⟩) n cg) :: (28, .pointer (some ⟨g2, o2, none⟩)) :: (29, .slice a2 C2 c2) :: (30, .int .i64 ((C2 : Int))) :: (31, .bool true) :: (32, .bool false) :: (33, .bool false) :: (34, .bool false) :: (35, .int .i64 y) :: (36, .slice (some ⟨g, o, none⟩) R cap) :: (37, .int .i64 ((R : Int))) :: (38, .slice (some ⟨g2, o2, none⟩) n cg) :: (39, .int .i64 ((n : Int))) :: (40, .int .i64 ((R : Int) - (n : Int))) :: (41, .bool false) :: (42, .bool true) :: (43, .bool true) :: (44, .bool true) :: (45, undef) :: (46, undef) :: (47, undef) :: (48, undef) :: (49, undef) :: (50, undef) :: (51, undef) :: (52, undef) :: (53, undef) :: (54, undef) :: (55, undef) :: (56, undef) :: (57, .bool true) :: (58, .bool true) :: (59, undef) :: (60, undef) :: (61, undef) :: (62, undef) :: (63, undef) :: (64, a'.tmps.getD 64 undef) :: []) (by kernel_rfl) ⟨h4 0 15 rfl (by decide), h4 1 16 rfl (by decide), h4 2 17 rfl (by decide), h4 3 18 rfl (by decide), h4 4 19 rfl (by decide), h4 5 20 rfl (by decide), h4 6 21 rfl (by decide), h4 7 22 rfl (by decide), h4 8 23 rfl (by decide), h4 9 24 rfl (by decide), h4 10 25 rfl (by decide), h4 11 26 rfl (by decide), h4 12 27 rfl (by decide), h4 13 28 rfl (by decide), h4 14 29 rfl (by decide), h4 15 30 rfl (by decide), h4 16 31 rfl (by decide), h4 17 32 rfl (by decide), h4 18 33 rfl (by decide), h4 19 34 rfl (by decide), h4 20 35 rfl (by decide), h4 21 36 rfl (by decide), h4 22 37 rfl (by decide), h4 23 38 rfl (by decide), h4 24 39 rfl (by decide), h4 25 40 rfl (by decide), h4 26 41 rfl (by decide), h4 27 42 rfl (by decide), h4 28 43 rfl (by decide), h4 29 44 rfl (by decide), h4 30 45 rfl (by decide), h4 31 46 rfl (by decide), h4 32 47 rfl (by decide), h4 33 48 rfl (by decide), h4 34 49 rfl (by decide), h4 35 50 rfl (by decide), h4 36 51 rfl (by decide), h4 37 52 rfl (by decide), h4 38 53 rfl (by decide), h4 39 54 rfl (by decide), h4 40 55 rfl (by decide), h4 41 56 rfl (by decide), h4 42 57 rfl (by decide), h4 43 58 rfl (by decide), h4 44 59 rfl (by decide), h4 45 60 rfl (by decide), h4 46 61 rfl (by decide), h4 47 62 rfl (by decide), h4 48 63 rfl (by decide), rfl, trivial⟩
        dsimp only [ov, List.lookup, Nat.reduceBEq, Nat.reduceAdd] at ha
        refine run_value (.bool true) (exec_pick_t (v := .bool true) rfl (h4 43 58 rfl (by decide)) (rfl)) (hK (.bool true) _ ?_)
        show Exit.then _ _ Exit.normal (Act.put a' (some 64) (.bool true)) _
        rw [ha]
        generalize a'.tmps.getD 64 undef = u64
        clear ha h1 h2 h3 h4 hst hK
        go_wp2
        go_ret2
        exact ⟨_, rfl, ownMat_nil _ _ _, hS⟩
end Go.Proofs.Ytiajdmoppgpgnaa
