/-
  Texts of this claim, one behind the other: LSums, Rs, SumF, RowSS, RowS, White, Arr, SpecE, SLSums.
-/
import Derived.Test.YtcliiefedmiokaaPackD
import Derived.Test.YtcliiefedmiokaaPackA
import Derived.Test.YtcliiefedmiokaaPackB
import Derived.Laws.CopyOwn
/-
  LineSums of the program.
-/
namespace Go.Proofs.Ytcliiefedmiokaa
open Go.RowKit Go.Maps

theorem exec_dirs1 {ρ : Operand → Value} {o : Oper} {w : World} {x : Operand} {dx dy : Int} (ho : o.op = .buildSlice 118 1 #[(0, x)]) (hx : ρ x = .agg #[.int .i64 dx, .int .i64 dy]) :
    (execOp ρ o).run Try.prog w = .ok (.value (.slice (some ⟨w.heap.size, 0, none⟩) 1 1)) (w.alloc (.cells #[.int .i64 dx, .int .i64 dy] 34)) := by
  unfold execOp
  simp only [ho]
  go_simp
theorem exec_dirs2 {ρ : Operand → Value} {o : Oper} {w : World} {x y : Operand} {dx dy ex ey : Int} (ho : o.op = .buildSlice 118 2 #[(0, x), (1, y)]) (hx : ρ x = .agg #[.int .i64 dx, .int .i64 dy]) (hy : ρ y = .agg #[.int .i64 ex, .int .i64 ey]) :
    (execOp ρ o).run Try.prog w = .ok (.value (.slice (some ⟨w.heap.size, 0, none⟩) 2 2)) (w.alloc (.cells #[.int .i64 dx, .int .i64 dy, .int .i64 ex, .int .i64 ey] 34)) := by
  unfold execOp
  simp only [ho]
  go_simp
theorem inDirs1 (w : World) (dx dy : Int) : InDirs (w.alloc (.cells #[.int .i64 dx, .int .i64 dy] 34)) (.slice (some ⟨w.heap.size, 0, none⟩) 1 1) [(dx, dy)] := by
  refine ⟨w.heap.size, 1, rfl, by simp, fun i hi => ?_⟩
  have : i = 0 := by simp at hi; omega
  subst this
  exact ⟨by simp [World.cell?_alloc_new], by simp [World.cell?_alloc_new]⟩
theorem inDirs2 (w : World) (dx dy ex ey : Int) : InDirs (w.alloc (.cells #[.int .i64 dx, .int .i64 dy, .int .i64 ex, .int .i64 ey] 34)) (.slice (some ⟨w.heap.size, 0, none⟩) 2 2) [(dx, dy), (ex, ey)] := by
  refine ⟨w.heap.size, 2, rfl, by simp, fun i hi => ?_⟩
  have : i = 0 ∨ i = 1 := by simp at hi; omega
  rcases this with rfl | rfl
  · exact ⟨by simp [World.cell?_alloc_new], by simp [World.cell?_alloc_new]⟩
  · exact ⟨by simp [World.cell?_alloc_new], by simp [World.cell?_alloc_new]⟩

theorem cnt_pos {p : Nat → Bool} {N : Nat} (h : cnt p N ≠ 0) : ∃ i, i < N ∧ p i = true := by
  induction N with
  | zero => exact absurd rfl h
  | succ N ih =>
    cases e : p N with
    | true => exact ⟨N, Nat.lt_succ_self _, e⟩
    | false =>
      rw [cnt_no e] at h
      obtain ⟨i, hi, hp⟩ := ih h
      exact ⟨i, Nat.lt_succ_of_lt hi, hp⟩
/-- The number of black cells on each line. -/
def lineRow (R C : Nat) (f : Nat → Nat → Int) (dx dy : Int) (N : Nat) : List Int := rowF N fun i => (cnt (onL C f (dx, dy) i) (R * C) : Nat)
theorem line_one {R C : Nat} {f : Nat → Nat → Int} {dx dy : Int} (i : Nat) : linesC C f (R * C) ⟨dx, dy, i⟩ [(dx, dy)] = (cnt (onL C f (dx, dy) i) (R * C) : Nat) := by
  simp [linesC, lineC]
theorem line_there {R C N : Nat} {f : Nat → Nat → Int} {dx dy : Int} (hn : Near dx dy) (hR : 1 ≤ R ∧ R ≤ 5) (hC : 1 ≤ C ∧ C ≤ 5) (hN : (N : Int) = countL R C dx dy) (k : Key) (h : thereK (fun k => linesC C f (R * C) k [(dx, dy)]) k = true) : (k.x = dx ∧ k.y = dy) ∧ 0 ≤ k.n ∧ k.n < N := by
  simp only [thereK, linesC, Int.add_zero, decide_eq_true_eq] at h
  unfold lineC at h
  by_cases e : k.x = dx ∧ k.y = dy
  · rw [if_pos e] at h
    obtain ⟨i, hi, hp⟩ := cnt_pos (p := onL C f (dx, dy) k.n) (N := R * C) (by omega)
    simp only [onL, Bool.and_eq_true, beq_iff_eq] at hp
    have hx := Nat.mod_lt i (show C > 0 by omega)
    have hy : i / C < R := Nat.div_lt_of_lt_mul (by rw [Nat.mul_comm]; exact hi)
    generalize i / C = Y at hp hy
    generalize i % C = X at hp hx
    obtain ⟨p1, p2, p3⟩ := lnum_range (rows := R) (cols := C) (y := Y) (x := X) hn (by omega) (by omega) (by omega) (by omega) (by omega) (by omega) (by omega) (by omega)
    refine ⟨e, by omega, ?_⟩
    rw [hN]; unfold countL; omega
  · rw [if_neg e] at h; exact absurd rfl h
theorem countL_size {R C : Nat} {dx dy : Int} (hn : Near dx dy) (hR : 1 ≤ R ∧ R ≤ 5) (hC : 1 ≤ C ∧ C ≤ 5) : ∃ N : Nat, (N : Int) = countL R C dx dy ∧ N ≤ 41 := by
  obtain ⟨p1, p2, -⟩ := lnum_range (rows := R) (cols := C) (y := (R : Int) - 1) (x := 0) hn (by omega) (by omega) (by omega) (by omega) (by omega) (by omega) (by omega) (by omega)
  obtain ⟨q1, q2, -⟩ := lnum_range (rows := R) (cols := C) (y := (R : Int) - 1) (x := (C : Int) - 1) hn (by omega) (by omega) (by omega) (by omega) (by omega) (by omega) (by omega) (by omega)
  refine ⟨(countL R C dx dy).toNat, ?_, ?_⟩ <;> unfold countL <;> omega
theorem countL_nat {R C : Nat} {f : Nat → Nat → Int} {dx dy : Int} (hn : Near dx dy) (hI : Img R C f) : ∃ N : Nat, (N : Int) = countL R C dx dy ∧ N ≤ 41 := countL_size hn ⟨hI.r1, hI.r2⟩ ⟨hI.c1, hI.c2⟩
/-- The sum of the elements on each line. -/
def lineRowE (R C : Nat) (f : Nat → Nat → Int) (dx dy : Int) (N : Nat) : List Int := rowF N fun i => sumF (elL C f (dx, dy) i) (R * C)
theorem line_oneE {R C : Nat} {f : Nat → Nat → Int} {dx dy : Int} (i : Nat) : linesE C f (R * C) ⟨dx, dy, i⟩ [(dx, dy)] = sumF (elL C f (dx, dy) i) (R * C) := by
  simp [linesE, lineE]
theorem lineRow_img {R C : Nat} {f : Nat → Nat → Int} (hI : Img R C f) (dx dy : Int) (N : Nat) : lineRowE R C f dx dy N = lineRow R C f dx dy N := rowF_congr fun i _ => by
  rw [← line_oneE, ← line_one, img_linesE hI]

set_option maxHeartbeats 400000 in
theorem implLineSums_img (v : Value) (m : List (List Int)) (dx dy : Int) (w : World) (hin : InMat w v m) (h : okB m = false) :
    Calls Try.prog 25 #[v, .agg #[.int .i64 dx, .int .i64 dy]] w (IntsRes [] w) := by
  have HB := hide ((Below.refl w.heap.size w).alloc (Nat.le_refl _) (.cells #[.int .i64 dx, .int .i64 dy] 34))
  have HI := hide (inMat_below hin HB.out); have H := hide h
  clear hin h
  go_enter Try.func25, Try.ntmps25
  go_wp2_with ((with_reducible refine (implImageOk_any v m _ HI.out).mono ?_); rw [H.out]; rintro e w' ⟨rfl, rfl⟩)
  go_ret
  exact intsRes_nil HB.out
set_option maxHeartbeats 400000 in
theorem implLineSums_dir (v : Value) (m : List (List Int)) (dx dy : Int) (w : World) (hin : InMat w v m) (h : okB m = true) (hd : dirOk dx dy = false) :
    Calls Try.prog 25 #[v, .agg #[.int .i64 dx, .int .i64 dy]] w (IntsRes [] w) := by
  have HB := hide ((Below.refl w.heap.size w).alloc (Nat.le_refl _) (.cells #[.int .i64 dx, .int .i64 dy] 34))
  have HI := hide (inMat_below hin HB.out); have H := hide h; have HD := hide hd
  clear hin h hd
  go_enter Try.func25, Try.ntmps25
  go_wp2_with (first | ((with_reducible refine (implImageOk_any v m _ HI.out).mono ?_); rw [H.out]; rintro e w' ⟨rfl, rfl⟩) | ((with_reducible refine (implDirectionOk_any dx dy _).mono ?_); rw [HD.out]; rintro e w1 ⟨rfl, hb⟩; have HB1 := hide (HB.out.trans (hb.mono HB.out.size)); clear hb))
  go_ret
  exact intsRes_nil HB1.out

set_option maxRecDepth 100000 in
set_option maxHeartbeats 2000000 in
theorem sumsAlong_any (v : Value) (R C N : Nat) (f : Nat → Nat → Int) (dx dy : Int) (w : World) (hin : InMat w v (mkM R C f)) (hR : 1 ≤ R ∧ R ≤ 5) (hC : 1 ≤ C ∧ C ≤ 5) (hS : Small R C f) (hd : dirOk dx dy = true) (hN : (N : Int) = countL R C dx dy) (hN2 : N ≤ 41) :
    Calls Try.prog 62 #[v, .agg #[.int .i64 dx, .int .i64 dy]] w (IntsRes (lineRowE R C f dx dy N) w) := by
  have hb0 := (Below.refl w.heap.size w).alloc (Nat.le_refl _) (.cells #[.int .i64 dx, .int .i64 dy] 34)
  have HM := hide hin
  have HRR := hide hR; have HCC := hide hC; have HSM := hide hS; have HD := hide hd; have HN := hide (near_of hd); have HNN := hide hN
  have HB0 := hide hb0
  have HZ : Hid ((sizeOk R C && dirOk dx dy) = true) := hide (by rw [hd, sizeOk, decide_eq_true (show (1 : Int) ≤ R ∧ (R : Int) ≤ 5 by omega), decide_eq_true (show (1 : Int) ≤ C ∧ (C : Int) ≤ 5 by omega)]; rfl)
  obtain ⟨g, o, cap, rfl, hg, hrow⟩ := inMat_img hin (by omega) (by omega)
  obtain ⟨g', o', c', hcr, hg', -⟩ := hrow 0 (by omega)
  have hR0 : 0 < R := by omega
  rw [Nat.add_zero] at hcr
  have HCR := hide hcr
  have HG0 := hide (show DirAt (w.alloc (.cells #[.int .i64 dx, .int .i64 dy] 34)) w.heap.size dx dy from heap_alloc_new w _)
  clear hin hd hN hrow hb0 hcr hS hR hC
  go_enter Try.func62, Try.ntmps62
  go_upto_region 1 with fail
  obtain ⟨fs, hfs⟩ : ∃ fs : List FactP, fs = [(isV (.slice (some ⟨g, o, none⟩) R cap)), (isV (.agg #[.int .i64 dx, .int .i64 dy])), (fun u w2 => InDirs w2 u [(dx, dy)]), (fun u w2 => ∃ b, u = .map (some b) ∧ LM w2 b 50 (thereK (fun k => linesC C (nzF f) (R * C) k [(dx, dy)])) (fun k => linesE C f (R * C) k [(dx, dy)])), (isV (.slice (some ⟨g, o, none⟩) R cap)), (isV (.int .i64 R)), (isV (.slice (some ⟨g, o, none⟩) R cap)), (isV (.pointer (some ⟨g, o, none⟩))), (isV (.slice (some ⟨g', o', none⟩) C c')), (isV (.int .i64 C)), (isV (.agg #[.int .i64 dx, .int .i64 dy])), (isV (.int .i64 N)), (fun u w2 => w2.ownsRow w.heap.size 3 1 u N (ints (rowF N fun i => linesE C f (R * C) ⟨dx, dy, i⟩ [(dx, dy)])))] := ⟨_, rfl⟩
  have hst : ∀ f ∈ fs, StableP f := by
    rw [hfs]; intro f hf
    simp only [List.mem_cons, List.not_mem_nil, or_false] at hf
    rcases hf with rfl | rfl | rfl | rfl | rfl | rfl | rfl | rfl | rfl | rfl | rfl | rfl | rfl <;> first | exact stable_v _ | exact fun u w2 w3 hb h => inDirs_below h hb | exact fun u w2 w3 hb h => ⟨h.choose, h.choose_spec.1, lm_below h.choose_spec.2 hb⟩ | exact fun u w2 w3 hb h => own_below h hb
  subst hfs
  refine wp_region_tail (S := fun w2 => DirAt w2 w.heap.size dx dy ∧ Below w.heap.size w w2) [(isV (.slice (some ⟨g, o, none⟩) R cap)), (isV (.agg #[.int .i64 dx, .int .i64 dy])), (fun u w2 => InDirs w2 u [(dx, dy)]), (fun u w2 => ∃ b, u = .map (some b) ∧ LM w2 b 50 (thereK (fun k => linesC C (nzF f) (R * C) k [(dx, dy)])) (fun k => linesE C f (R * C) k [(dx, dy)])), (isV (.slice (some ⟨g, o, none⟩) R cap)), (isV (.int .i64 R)), (isV (.slice (some ⟨g, o, none⟩) R cap)), (isV (.pointer (some ⟨g, o, none⟩))), (isV (.slice (some ⟨g', o', none⟩) C c')), (isV (.int .i64 C)), (isV (.agg #[.int .i64 dx, .int .i64 dy])), (isV (.int .i64 N)), (fun u w2 => w2.ownsRow w.heap.size 3 1 u N (ints (rowF N fun i => linesE C f (R * C) ⟨dx, dy, i⟩ [(dx, dy)])))] [(0, .slice (some ⟨g, o, none⟩) R cap), (3, .pointer (some ⟨w.heap.size, 0, none⟩))] _ _ 13 (by kernel_rfl) rfl rfl (by kernel_rfl) (by kernel_rfl) rfl (by kernel_rfl) ?base ⟨HG0.out, below_drew HB0.out⟩ ?ob rfl ?fin
  case base =>
    intro t v ht
    simp only [List.lookup_cons, List.lookup_nil] at ht
    repeat' split at ht
    all_goals first | (cases ht; done) | (obtain rfl := Option.some.inj ht; rename_i hh; obtain rfl := eq_of_beq hh; rfl)
  case ob =>
    exact ⟨obt_move (.slice (some ⟨g, o, none⟩) R cap) rfl rfl rfl (srt_b 0 rfl),
      obt_one (.agg #[.int .i64 dx, .int .i64 dy]) rfl rfl (srt_b 3 rfl) (fun ρ w2 hS hx => exec_loadDir rfl hx hS.1),
      obt_make hst rfl (fun a w2 hS hs => by
      have hh : Below w2.heap.size w2 (w2.alloc (.cells #[.int .i64 dx, .int .i64 dy] 34)) := (Below.refl _ _).alloc (Nat.le_refl _) _
      exact ⟨_, _, exec_dirs1 rfl (hs _ _ (srt_j 1 rfl (by kernel_rfl) rfl)), ⟨dirAt_below hS.1 hh, hS.2.trans (hh.mono hS.2.size)⟩, hh, inDirs1 w2 dx dy⟩),
      obt_call_r hst 2 rfl Try.func65 (by kernel_rfl) (by kernel_rfl) rfl rfl (by kernel_rfl) (srt_j 0 rfl (by kernel_rfl) rfl) (fun v w2 hS hf => (lineMapOf_el _ v R C f [(dx, dy)] w2 (inMat_below HM.out hS.2) HRR.out HCC.out HSM.out hf (by simp) (fun d hd => by simp only [List.mem_singleton] at hd; subst hd; exact HN.out)).mono fun e w3 ⟨b, he, _, hl, hh⟩ => ⟨_, he, ⟨dirAt_below hS.1 hh, hS.2.trans (hh.mono hS.2.size)⟩, hh, b, rfl, hl⟩),
      obt_move (.slice (some ⟨g, o, none⟩) R cap) rfl rfl rfl (srt_b 0 rfl),
      obt_one (.int .i64 R) rfl rfl (srt_j 4 rfl (by kernel_rfl) rfl) (fun ρ w2 hS hx => by go_simp),
      obt_move (.slice (some ⟨g, o, none⟩) R cap) rfl rfl rfl (srt_b 0 rfl),
      obt_two (.pointer (some ⟨g, o, none⟩)) rfl rfl (srt_j 6 rfl (by kernel_rfl) rfl) (srt_c (v := .int .i64 0)) (fun ρ w2 hS hx hy => by go_simp),
      obt_one (.slice (some ⟨g', o', none⟩) C c') rfl rfl (srt_j 7 rfl (by kernel_rfl) rfl) (fun ρ w2 hS hx => by have hc := below_cell hS.2 hg HCR.out; go_simp),
      obt_one (.int .i64 C) rfl rfl (srt_j 8 rfl (by kernel_rfl) rfl) (fun ρ w2 hS hx => by go_simp),
      obt_one (.agg #[.int .i64 dx, .int .i64 dy]) rfl rfl (srt_b 3 rfl) (fun ρ w2 hS hx => exec_loadDir rfl hx hS.1),
      obt_call hst [.int .i64 R, .int .i64 C, .agg #[.int .i64 dx, .int .i64 dy]] rfl Try.func111 (by kernel_rfl) (by kernel_rfl) rfl ⟨(srt_j 5 rfl (by kernel_rfl) rfl), (srt_j 9 rfl (by kernel_rfl) rfl), (srt_j 10 rfl (by kernel_rfl) rfl), trivial⟩ (fun w2 hS => (implCountLines_any R C dx dy w2).mono fun e w3 ⟨he, hh⟩ => ⟨_, he, ⟨dirAt_below hS.1 hh, hS.2.trans (hh.mono hS.2.size)⟩, hh, by rw [if_pos HZ.out, ← HNN.out]; rfl⟩),
      obt_call_l hst 3 rfl Try.func110 (by kernel_rfl) (by kernel_rfl) rfl rfl (by kernel_rfl) (srt_j 11 rfl (by kernel_rfl) rfl) (fun v w2 hS hf => by
      obtain ⟨b, rfl, hl⟩ := hf
      exact (list_any b 50 N _ _ dx dy w2 hl (fun k _ hk => line_there HN.out HRR.out HCC.out HNN.out k hk) (by omega) (WalkArith.wf_i64 (by have := HN.out.x1; have := HN.out.x2; omega)) (WalkArith.wf_i64 (by have := HN.out.y1; have := HN.out.y2; omega))).mono fun e w3 ⟨u, he, ho, hh⟩ => ⟨_, he, ⟨dirAt_below hS.1 hh, hS.2.trans (hh.mono hS.2.size)⟩, hh, own_base ho hS.2.size⟩),
      trivial⟩
  case fin =>
    intro a' w' h1 h2 h3 hS h4 K hK
    obtain ⟨u, HU⟩ : ∃ u, Hid (a'.eval (.tmp 17) = u) := ⟨_, hide rfl⟩
    have HO := hide (h4 12 17 rfl (by decide))
    refine tail_assign rfl HU.out ?_ K hK
    go_wp2
    refine bodyPost_ret (results_tmp rfl _ _ _) rfl ⟨u, congrArg Ending.returned (set_get (d := 4) (n := 18) h1 (by decide)), ?_, hS.2⟩
    have e : lineRowE R C f dx dy N = rowF N fun i => linesE C f (R * C) ⟨dx, dy, i⟩ [(dx, dy)] := rowF_congr fun i _ => (line_oneE i).symm
    rw [e, rowF_len, ← HU.out]; exact HO.out

set_option maxHeartbeats 1000000 in
theorem implLineSums_yes (v : Value) (R C N : Nat) (f : Nat → Nat → Int) (dx dy : Int) (w : World) (hin : InMat w v (mkM R C f)) (hI : Img R C f) (hd : dirOk dx dy = true) (hN : (N : Int) = countL R C dx dy) (hN2 : N ≤ 41) :
    Calls Try.prog 25 #[v, .agg #[.int .i64 dx, .int .i64 dy]] w (IntsRes (lineRow R C f dx dy N) w) := by
  have HB := hide ((Below.refl w.heap.size w).alloc (Nat.le_refl _) (.cells #[.int .i64 dx, .int .i64 dy] 34))
  have HM := hide hin; have HI := hide (inMat_below hin HB.out); have H := hide (img_ok hI); have HD := hide hd
  have HG0 := hide (show DirAt (w.alloc (.cells #[.int .i64 dx, .int .i64 dy] 34)) w.heap.size dx dy from heap_alloc_new w _)
  have HS := hide fun w h => sumsAlong_any v R C N f dx dy w h ⟨hI.r1, hI.r2⟩ ⟨hI.c1, hI.c2⟩ (img_small hI) hd hN hN2
  have HE := hide (lineRow_img hI dx dy N)
  clear hin hI hd hN
  go_enter Try.func25, Try.ntmps25
  go_wp2_with (first | ((with_reducible refine (implImageOk_any _ _ _ HI.out).mono ?_); rw [H.out]; rintro e w' ⟨rfl, rfl⟩) | ((with_reducible refine (implDirectionOk_any dx dy _).mono ?_); rw [HD.out]; rintro e w1 ⟨rfl, hb⟩; have HB1 := hide (HB.out.trans (hb.mono HB.out.size)); have HG1 := hide (dirAt_below HG0.out hb); clear hb) | (with_reducible refine wpList_loadDir HG1.out rfl _ rfl rfl ?_) | ((with_reducible refine (HS.out _ (inMat_below HM.out HB1.out)).mono ?_); rintro e w2 ⟨u, rfl, ho, hb⟩; have HO := hide ho; have HB2 := hide (HB1.out.trans (hb.mono HB1.out.size)); have hs := HB1.out.size; clear ho hb))
  go_ret
  exact ⟨_, rfl, by rw [← HE.out]; exact own_base HO.out hs, HB2.out⟩
end Go.Proofs.Ytcliiefedmiokaa
/-
  Row sums and column sums as lists.
-/
namespace Go.Proofs.Ytcliiefedmiokaa
open Go.RowKit

/-- The number of black cells in a row, in a column. -/
def rs (C : Nat) (f : Nat → Nat → Int) (y : Nat) : Nat := cnt (fun x => f y x == 1) C
def cs (R : Nat) (f : Nat → Nat → Int) (x : Nat) : Nat := cnt (fun y => f y x == 1) R
/-- The row sums. -/
def rowsL (R C : Nat) (f : Nat → Nat → Int) : List Int := rowF R fun y => (rs C f y : Nat)
theorem rs_cell {R C : Nat} {f : Nat → Nat → Int} (h : Img R C f) {y x : Nat} (hy : y < R) (hx : x < C) : ((cnt (fun x => f y x == 1) (x + 1) : Nat) : Int) = (cnt (fun x => f y x == 1) x : Nat) + f y x := by
  rcases h.cell y x hy hx with e | e
  · rw [cnt_no (by simp [e]), e]; simp
  · rw [cnt_yes (by simp [e]), e]; simp
end Go.Proofs.Ytcliiefedmiokaa
/-
  Numbers of black cells by rows, by columns and by lines.
-/
namespace Go.Proofs.Ytcliiefedmiokaa
open Go.RowKit

theorem cnt_add (p : Nat → Bool) (b : Nat) : ∀ C, cnt p (b + C) = cnt p b + cnt (fun x => p (b + x)) C
  | 0 => rfl
  | C + 1 => by
    have := cnt_add p b C
    rw [← Nat.add_assoc, cnt, cnt, this]; omega
theorem cnt_congr {p q : Nat → Bool} : ∀ {N : Nat}, (∀ i, i < N → p i = q i) → cnt p N = cnt q N
  | 0, _ => rfl
  | N + 1, h => by rw [cnt, cnt, cnt_congr fun i hi => h i (by omega), h N (by omega)]
theorem cnt_none {p : Nat → Bool} {N : Nat} (h : ∀ i, i < N → p i = false) : cnt p N = 0 := cnt_skip (k := 0) (Nat.zero_le _) fun i _ hi => h i hi
theorem cnt_only {p : Nat → Bool} {N j : Nat} (hj : j < N) (h : ∀ i, i < N → i ≠ j → p i = false) : cnt p N = if p j = true then 1 else 0 := by
  have h1 : cnt p N = cnt p (j + 1) := cnt_skip (by omega) fun i h1 h2 => h i h2 (by omega)
  have h2 : cnt p j = 0 := cnt_none fun i hi => h i (by omega) (by omega)
  rw [h1, cnt, h2]; omega
theorem lnum_row (C y x : Nat) : lnum 1 0 C y x = y := by simp [lnum, least]
theorem lnum_col (C y x : Nat) (hx : x < C) : lnum 0 1 C y x = (C : Int) - 1 - x := by unfold lnum least; omega
theorem cnt_rows (C : Nat) (f : Nat → Nat → Int) (n : Int) : ∀ Y : Nat, cnt (onL C f (1, 0) n) (C * Y) = if 0 ≤ n ∧ n < Y then rs C f n.toNat else 0
  | 0 => by rw [if_neg (by omega)]; rfl
  | Y + 1 => by
    have h1 : cnt (fun x => onL C f (1, 0) n (C * Y + x)) C = if n = Y then rs C f Y else 0 := by
      by_cases e : n = Y
      · rw [if_pos e]
        refine cnt_congr fun x hx => ?_
        rw [onL_at hx]
        simp only [lnum_row, e]; simp
      · rw [if_neg e]
        refine cnt_none fun x hx => ?_
        rw [onL_at hx]
        simp only [lnum_row]
        have : ((Y : Int) == n) = false := by simp; omega
        rw [this, Bool.and_false]
    rw [Nat.mul_succ, cnt_add, cnt_rows C f n Y, h1]
    by_cases e : n = Y
    · rw [if_pos e, if_neg (by omega), if_pos (by omega), Nat.zero_add]
      congr 1; omega
    · rw [if_neg e, Nat.add_zero]
      by_cases h : 0 ≤ n ∧ n < Y
      · rw [if_pos h, if_pos (by omega)]
      · rw [if_neg h, if_neg (by omega)]
theorem cnt_cols (C : Nat) (f : Nat → Nat → Int) (n : Int) : ∀ Y : Nat, cnt (onL C f (0, 1) n) (C * Y) = if 0 ≤ n ∧ n < C then cs Y f (C - 1 - n.toNat) else 0
  | 0 => by split <;> rfl
  | Y + 1 => by
    rw [Nat.mul_succ, cnt_add, cnt_cols C f n Y]
    by_cases h : 0 ≤ n ∧ n < C
    · rw [if_pos h, if_pos h]
      have hj : C - 1 - n.toNat < C := by omega
      have h1 : cnt (fun x => onL C f (0, 1) n (C * Y + x)) C = if (f Y (C - 1 - n.toNat) == 1) = true then 1 else 0 := by
        rw [cnt_only hj fun x hx hne => ?_]
        · have e : onL C f (0, 1) n (C * Y + (C - 1 - n.toNat)) = (f Y (C - 1 - n.toNat) == 1) := by
            rw [onL_at hj, lnum_col C Y _ hj]
            have : ((C : Int) - 1 - ((C - 1 - n.toNat : Nat) : Int) == n) = true := by simp; omega
            rw [this, Bool.and_true]
          simp only [e]
        · rw [onL_at hx, lnum_col C Y x hx]
          have : ((C : Int) - 1 - (x : Int) == n) = false := by simp; omega
          rw [this, Bool.and_false]
      rw [h1]; rfl
    · rw [if_neg h, if_neg h, Nat.zero_add]
      refine cnt_none fun x hx => ?_
      rw [onL_at hx, lnum_col C Y x hx]
      have : ((C : Int) - 1 - (x : Int) == n) = false := by simp; omega
      rw [this, Bool.and_false]
theorem lineRow_rows (R C : Nat) (f : Nat → Nat → Int) : lineRow R C f 1 0 R = rowsL R C f := rowF_congr fun i hi => by
  rw [Nat.mul_comm R C, cnt_rows, if_pos (by omega)]; rfl
theorem countL_rows (R C : Nat) : countL R C 1 0 = R := by unfold countL lnum least; omega
end Go.Proofs.Ytcliiefedmiokaa
/-
  RowSums of the model.
-/
namespace Go.Proofs.Ytcliiefedmiokaa
open Go.RowKit

set_option maxHeartbeats 400000 in
theorem specRowSums_no (v : Value) (m : List (List Int)) (w : World) (hin : InMat w v m) (h : okB m = false) :
    Calls Try.prog 13 #[v] w (IntsRes [] w) := by
  have HI := hide hin; have H := hide h
  clear hin h
  go_enter Try.func13, Try.ntmps13
  go_wp2_with ((with_reducible refine (specImageOk_any v m _ HI.out).mono ?_); rw [H.out]; rintro e w' ⟨rfl, rfl⟩)
  go_ret
  exact intsRes_nil (Below.refl _ _)
set_option maxHeartbeats 1000000 in
theorem specRowSums_yes (v : Value) (R C : Nat) (f : Nat → Nat → Int) (w : World) (hin : InMat w v (mkM R C f)) (hI : Img R C f) :
    Calls Try.prog 13 #[v] w (IntsRes (rowsL R C f) w) := by
  have HM := hide hin; have H := hide hI
  obtain ⟨g, o, cap, rfl, hg, hrow⟩ := inMat_img hin (by have := hI.r1; omega) (by have := hI.c1; omega)
  have HROW := hide hrow
  obtain ⟨r1, r2, c1, c2, -⟩ := hI
  clear hin hrow
  go_enter Try.func13, Try.ntmps13
  go_wp2_with ((with_reducible refine (specImageOk_any _ _ _ HM.out).mono ?_); rw [img_ok H.out]; rintro e w' ⟨rfl, rfl⟩)
  have HO0 : Hid ((w.alloc (.cells #[] 3)).ownsRow w.heap.size 3 1 (.slice (some ⟨w.heap.size, 0, none⟩) 0 0) 0 []) := hide (World.ownsRow_made (base := w.heap.size) w #[] 0 (Nat.le_refl _) (Nat.zero_le _) rfl)
  have HB0 := hide ((Below.refl w.heap.size w).alloc (Nat.le_refl _) (.cells #[] 3))
  go_loopw [3, 15] (fun s i wr => ∃ y : Nat, y ≤ R ∧ i = .int .i64 y ∧ wr.ownsRow w.heap.size 3 1 s y (ints (rowF y fun k => (rs C f k : Nat))) ∧ Below w.heap.size w wr) (fun _ i _ => R - (intOf i).toNat)
  case atStart => exact ⟨0, Nat.zero_le _, rfl, HO0.out, HB0.out⟩
  case round =>
    obtain ⟨y, hy, rfl, ho, hb⟩ := hrel
    have HB := hide hb
    obtain ⟨sa, sc, rfl⟩ := own_slice ho
    have HO := hide ho
    have hsz := hb.size
    clear ho hb
    by_cases hly : y < R
    · obtain ⟨g', o', c', hcr, hg', hcell⟩ := HROW.out y hly
      have hcr := below_cell HB.out hg hcr
      have HCELL := hide hcell
      clear hcell
      go_wp2
      go_loop [6, 21] (fun n i => ∃ x : Nat, x ≤ C ∧ i = .int .i64 x ∧ n = .int .i64 (cnt (fun x => f y x == 1) x : Nat)) (fun _ i => C - (intOf i).toNat)
      case atStart => exact ⟨0, Nat.zero_le _, rfl, rfl⟩
      case round =>
        obtain ⟨x, hx, rfl, rfl⟩ := hrel
        have hcl := cnt_le (fun x => f y x == 1) x
        by_cases hlx : x < C
        · have hcx := below_cell HB.out hg' (HCELL.out x hlx)
          have HST := hide (rs_cell H.out hly hlx)
          have hf : 0 ≤ f y x ∧ f y x ≤ 1 := by rcases H.out.cell y x hly hlx with e | e <;> rw [e] <;> decide
          obtain ⟨hf0, hf1⟩ := hf
          obtain ⟨z, hz⟩ : ∃ z, z = f y x := ⟨_, rfl⟩
          obtain ⟨q, hq⟩ : ∃ q, q = cnt (fun x => f y x == 1) x := ⟨_, rfl⟩
          rw [← hz] at hcx HST hf0 hf1
          rw [← hq] at HST hcl ⊢
          clear hz hq
          go_wp2
          go_round
          case rel => exact ⟨x + 1, by omega, by go_num, by rw [HST.out]⟩
          case measure => simp [intOf]; omega
        · obtain rfl : x = C := by omega
          obtain ⟨q, hq⟩ : ∃ q, q = cnt (fun z => f y z == 1) x := ⟨_, rfl⟩
          have HQ := hide (show q = rs x f y from hq)
          rw [← hq] at hcl ⊢
          clear hq
          go_wp2_with (at_builtin; refine wpList_push HO.out (.int .i64 q) (.int .i64 0) rfl _ _ rfl Try.underlying24 Try.infoInt rfl (by decide) rfl rfl rfl (by omega) (by omega) ?_; intro v' w6 hown1 hb1 hg1)
          go_roundw
          case rel =>
            refine ⟨y + 1, by omega, by go_num, ?_, HB.out.trans hb1⟩
            have e : ints (rowF (y + 1) fun k => ((rs x f k : Nat) : Int)) = ints (rowF y fun k => ((rs x f k : Nat) : Int)) ++ [.int .i64 q] := by
              rw [HQ.out]; simp [ints, rowF, List.range_succ]
            rw [e]; exact hown1
          case measure => simp [intOf]; omega
    · obtain rfl : y = R := by omega
      go_wp2
      go_ret
      exact ⟨_, rfl, by rw [rowsL, rowF_len]; exact HO.out, HB.out⟩
end Go.Proofs.Ytcliiefedmiokaa
/-
  RowSums of both.
-/
namespace Go.Proofs.Ytcliiefedmiokaa
open Go.RowKit

theorem alongRows_any (w : World) : Calls Try.prog 54 #[] w fun e w' => e = .returned (.agg #[.int .i64 1, .int .i64 0]) ∧ Below w.heap.size w w' := by
  go_enter Try.func54, Try.ntmps54
  go_wp2
  exact bodyPost_ret (v := .agg #[.int .i64 1, .int .i64 0]) (by simp [results, Try.results54, go_sem]) rfl ⟨rfl, (Below.refl _ _).alloc (Nat.le_refl _) _⟩
theorem alongCols_any (w : World) : Calls Try.prog 66 #[] w fun e w' => e = .returned (.agg #[.int .i64 0, .int .i64 1]) ∧ Below w.heap.size w w' := by
  go_enter Try.func66, Try.ntmps66
  go_wp2
  exact bodyPost_ret (v := .agg #[.int .i64 0, .int .i64 1]) (by simp [results, Try.results66, go_sem]) rfl ⟨rfl, (Below.refl _ _).alloc (Nat.le_refl _) _⟩

theorem implRowSums_no (v : Value) (m : List (List Int)) (w : World) (hin : InMat w v m) (h : okB m = false) :
    Calls Try.prog 15 #[v] w (IntsRes [] w) := by
  have HI := hide hin; have H := hide h
  clear hin h
  go_enter Try.func15, Try.ntmps15
  go_wp2_with fail
  refine (alongRows_any _).mono ?_
  rintro e w1 ⟨rfl, hb⟩
  have HB := hide hb
  clear hb
  go_wp2_with fail
  refine (implLineSums_img v m 1 0 _ (inMat_below HI.out HB.out) H.out).mono ?_
  rintro e w2 ⟨u, rfl, ho, hb⟩
  have HO := hide (own_base ho HB.out.size); have HB2 := hide (HB.out.trans (hb.mono HB.out.size))
  clear ho hb
  go_wp2
  go_ret
  exact ⟨_, rfl, HO.out, HB2.out⟩
theorem implRowSums_yes (v : Value) (R C : Nat) (f : Nat → Nat → Int) (w : World) (hin : InMat w v (mkM R C f)) (hI : Img R C f) :
    Calls Try.prog 15 #[v] w (IntsRes (rowsL R C f) w) := by
  have HI := hide hin; have H := hide hI
  rw [← lineRow_rows]
  clear hin hI
  go_enter Try.func15, Try.ntmps15
  go_wp2_with fail
  refine (alongRows_any _).mono ?_
  rintro e w1 ⟨rfl, hb⟩
  have HB := hide hb
  clear hb
  go_wp2_with fail
  refine (implLineSums_yes v R C R f 1 0 _ (inMat_below HI.out HB.out) H.out (by decide) (countL_rows R C).symm (by have := H.out.r2; omega)).mono ?_
  rintro e w2 ⟨u, rfl, ho, hb⟩
  have HO := hide (own_base ho HB.out.size); have HB2 := hide (HB.out.trans (hb.mono HB.out.size))
  clear ho hb
  go_wp2
  go_ret
  exact ⟨_, rfl, HO.out, HB2.out⟩

end Go.Proofs.Ytcliiefedmiokaa
/-
  whiteImage.
-/
namespace Go.Proofs.Ytcliiefedmiokaa
open Go.RowKit

def whiteF (r c : Int) (i : Nat) : Int := if r ≤ (i / 5 : Nat) ∨ c ≤ (i % 5 : Nat) then -1 else 0
def upF (F : Nat → Int) (k : Nat) (i : Nat) : Int := if i < k then F i else 0
theorem Try.zeroImg (w : World) : (zeroValue 78).run Try.prog w = .ok (.agg (vec 25 fun _ => 0)) w := Try.zeroValue78 w
theorem Try.zeroRow (w : World) : (zeroValue 76).run Try.prog w = .ok (.agg (vec 5 fun _ => 0)) w := Try.zeroValue76 w
theorem Try.sizeImg : (Try.prog.info? 78).map (·.size) = some 25 := by kernel_rfl
theorem Try.sizeRow : (Try.prog.info? 76).map (·.size) = some 5 := by kernel_rfl

theorem upF_zero (F : Nat → Int) : upF F 0 = fun _ => 0 := by funext i; simp [upF]
theorem upF_set (F : Nat → Int) (k : Nat) (v : Int) (h : F k = v) : (fun j => if j = k then v else upF F k j) = upF F (k + 1) := by
  funext j
  simp only [upF]
  by_cases e : j = k
  · subst e; simp [h]
  · rw [if_neg e]
    by_cases hl : j < k
    · rw [if_pos hl, if_pos (by omega)]
    · rw [if_neg hl, if_neg (by omega)]
theorem upF_skip (F : Nat → Int) (k : Nat) (h : F k = 0) : upF F k = upF F (k + 1) := by
  funext j
  simp only [upF]
  by_cases hl : j < k
  · rw [if_pos hl, if_pos (by omega)]
  · by_cases e : j = k
    · subst e; simp [h]
    · rw [if_neg hl, if_neg (by omega)]
theorem upF_all (F : Nat → Int) (n k : Nat) (h : n ≤ k) : ∀ i, i < n → upF F k i = F i := fun i hi => by rw [upF, if_pos (by omega)]
theorem whiteF_at (r c : Int) (y x : Nat) (h : x < 5) : whiteF r c (5 * y + x) = if r ≤ (y : Nat) ∨ c ≤ (x : Nat) then -1 else 0 := by
  rw [whiteF, show (5 * y + x) / 5 = y by omega, show (5 * y + x) % 5 = x by omega]

set_option maxHeartbeats 400000 in
theorem whiteImage_any (r c : Int) (w : World) :
    Calls Try.prog 115 #[.int .i64 r, .int .i64 c] w fun e w' => e = .returned (.agg (vec 25 (whiteF r c))) ∧ Below w.heap.size w w' := by
  go_enter Try.func115, Try.ntmps115
  go_wp2_with (first | (with_reducible refine wpList_allocVec 25 4 rfl rfl rfl Try.zeroImg ?_; intro w1 h1 b1 s1) | (with_reducible refine wpList_allocVec 25 5 rfl rfl rfl Try.zeroImg ?_; intro w2 h2 b2 s2))
  rw [s1] at h2
  have b1' := b1.trans (b2.mono (by omega))
  have h1 := blk_below h1 b2
  have s2 : w2.heap.size = w.heap.size + 2 := by omega
  clear b1 s1 b2
  go_loopw [8] (fun i w' => ∃ y : Nat, y ≤ 5 ∧ i = .int .i64 y ∧ Blk w' (w.heap.size + 1) 78 25 (upF (whiteF r c) (5 * y)) ∧ Blk w' w.heap.size 78 25 (fun _ => 0) ∧ Below w.heap.size w w') (fun i _ => 5 - (intOf i).toNat)
  case atStart => exact ⟨0, by omega, rfl, by rw [Nat.mul_zero, upF_zero]; exact h2, h1, b1'⟩
  case round =>
    clear h1 h2 b1' s2
    obtain ⟨y, hy, rfl, hp, hr, hb⟩ := hrel
    by_cases hlt : y < 5
    · have hyI : (y : Int) < 5 := by omega
      go_wp2
      go_loopw [11] (fun i w' => ∃ x : Nat, x ≤ 5 ∧ i = .int .i64 x ∧ Blk w' (w.heap.size + 1) 78 25 (upF (whiteF r c) (5 * y + x)) ∧ Blk w' w.heap.size 78 25 (fun _ => 0) ∧ Below w.heap.size w w') (fun i _ => 5 - (intOf i).toNat)
      case atStart => exact ⟨0, by omega, rfl, hp, hr, hb⟩
      case round =>
        clear hp hr hb
        obtain ⟨x, hx, rfl, hp, hr, hb⟩ := hrel
        by_cases hlx : x < 5
        · by_cases hc : r ≤ (y : Int) ∨ c ≤ (x : Int)
          · have HS := hide (upF_set (whiteF r c) (5 * y + x) (-1) (by rw [whiteF_at r c y x hlx, if_pos hc]))
            have hcl := blk_cell hp (5 * y + x) (by omega)
            have hfr := blk_frozen hp (5 * y + x)
            have HA : Hid (0 + y * 5 + x * 1 = 5 * y + x) := hide (by omega)
            by_cases h1 : r ≤ (y : Int)
            all_goals
              try have h2 : c ≤ (x : Int) := by omega
              clear hc
              go_wp2_with (first | (with_reducible refine wpList_indexAt y 24 rfl rfl _ _ rfl rfl rfl Try.underlying78 Try.sizeOf76 hlt ?_) | (with_reducible refine wpList_indexAt x 25 rfl rfl _ _ rfl rfl rfl Try.underlying76 Try.sizeOf3 hlx ?_; rw [HA.out]))
              go_roundw
              case rel => exact ⟨x + 1, by omega, by go_num, by have := blk_set hp (5 * y + x) (-1); rw [HS.out] at this; exact this, blk_other hr _ _ (by simp), hb.setCell (by simp) _⟩
              case measure => simp [intOf]; omega
          · have h1 : (y : Int) < r := by omega
            have h2 : (x : Int) < c := by omega
            have HS := hide (upF_skip (whiteF r c) (5 * y + x) (by rw [whiteF_at r c y x hlx, if_neg hc]))
            clear hc
            go_wp2
            go_roundw
            case rel => exact ⟨x + 1, by omega, by go_num, by rw [HS.out] at hp; exact hp, hr, hb⟩
            case measure => simp [intOf]; omega
        · obtain rfl : x = 5 := by omega
          go_wp2
          go_roundw
          case rel => exact ⟨y + 1, by omega, by go_num, by rw [show 5 * (y + 1) = 5 * y + 5 by omega]; exact hp, hr, hb⟩
          case measure => simp [intOf]; omega
    · obtain rfl : y = 5 := by omega
      have hp := blk_congr hp (upF_all (whiteF r c) 25 (5 * 5) (by omega))
      go_wp2_with (first | (with_reducible refine wpList_loadVec hp 28 rfl rfl _ rfl rfl Try.underlying78 Try.sizeImg ?_) | (with_reducible refine wpList_storeVec hr rfl (.tmp 4) (.tmp 28) rfl rfl rfl Try.sizeImg ?_; intro w4 h4 g4 s4))
      refine bodyPost_ret (results_cell_row rfl _ _ w.heap.size 78 _ (0, 0) _ rfl h4 Try.underlying78 rfl (by rw [vec_size]; exact Try.sizeImg)) rfl ⟨rfl, ?_⟩
      exact hb.trans (grown_below g4 (fun k hk => by cases hk; exact Nat.le_refl _) hb.size)
end Go.Proofs.Ytcliiefedmiokaa
/-
  The program's images: imageOf, size, lists.
-/
namespace Go.Proofs.Ytcliiefedmiokaa
open Go.RowKit

theorem results_vec_tmp {P : Program} {fn : Func} {p t : Tmp} {ty : TypeId} (h : fn.results = #[.cell p ty, .tmp t]) (tmps : Array Value) (w : World) (g n m : Nat) (T e : TypeId) (F : Nat → Int)
    (hp : tmps.getD p undef = .pointer (some ⟨g, 0, none⟩)) (hb : Blk w g T n F) (hu : P.underlying ty = some (.array m e)) (hi : (P.info? ty).map (·.size) = some n) :
    (results fn tmps).run P w = .ok (.tuple #[.agg (vec n F), tmps.getD t undef]) w := by
  have hp' : tmps[p]?.getD undef = .pointer (some ⟨g, 0, none⟩) := by simpa using hp
  simp [results, h, hp', asAddr, run_loadVar_row w g T ty (vec n F) (0, 0) _ hb hu rfl (by rw [hi, vec_size])]
theorem results_vec {P : Program} {fn : Func} {p : Tmp} {ty : TypeId} (h : fn.results = #[.cell p ty]) (tmps : Array Value) (w : World) (g n m : Nat) (T e : TypeId) (F : Nat → Int)
    (hp : tmps.getD p undef = .pointer (some ⟨g, 0, none⟩)) (hb : Blk w g T n F) (hu : P.underlying ty = some (.array m e)) (hi : (P.info? ty).map (·.size) = some n) :
    (results fn tmps).run P w = .ok (.agg (vec n F)) w :=
  results_cell_row h tmps w g T (vec n F) (0, 0) _ hp hb hu rfl (by rw [hi, vec_size])

/-- The rows so far: of row y the first x cells, too. -/
def upRow (R C : Nat) (f : Nat → Nat → Int) (y : Nat) (i : Nat) : Int := if i / 5 < y then imgF R C f i else whiteF R C i
theorem upRow_zero (R C : Nat) (f : Nat → Nat → Int) : upRow R C f 0 = whiteF R C := by funext i; simp [upRow]
theorem upRow_all (R C : Nat) (f : Nat → Nat → Int) : ∀ i, i < 25 → upRow R C f R i = imgF R C f i := by
  intro i hi
  unfold upRow
  split
  · rfl
  · rename_i h; rw [whiteF, if_pos (by left; omega), imgF, if_neg (by omega)]
theorem upRow_step (R C : Nat) (f : Nat → Nat → Int) (y : Nat) (hy : y < R) (hR : R ≤ 5) (hC : C ≤ 5) : splice (vecL 25 (upRow R C f y)) (y * 5) (ints (rowF C (f y))) = vecL 25 (upRow R C f (y + 1)) := by
  have hl : (splice (vecL 25 (upRow R C f y)) (y * 5) (ints (rowF C (f y)))).length = 25 := by
    rw [length_splice _ _ _ (by rw [vecL_len, ints_len, rowF_len]; omega), vecL_len]
  apply List.ext_getElem
  · rw [hl, vecL_len]
  · intro i h1 h2
    have hi : i < 25 := by rw [hl] at h1; exact h1
    simp only [splice, vecL, ints, rowF]
    simp only [List.getElem_append, List.length_take, List.length_map, List.length_range, List.getElem_take, List.getElem_map, List.getElem_range, List.getElem_drop]
    by_cases a : i < y * 5
    · have : i < min (y * 5) 25 := by omega
      simp only [this, dif_pos]
      rw [upRow, upRow, if_pos (by omega), if_pos (by omega)]
    · have h0 : ¬ i < min (y * 5) 25 := by omega
      simp only [h0, dif_neg, not_false_eq_true]
      by_cases b : i < y * 5 + C
      · have h3 : i - min (y * 5) 25 < C := by omega
        simp only [h3, dif_pos]
        rw [upRow, if_pos (by omega), imgF, if_pos (by omega), show i - min (y * 5) 25 = i % 5 by omega, show y = i / 5 by omega]
      · have h3 : ¬ i - min (y * 5) 25 < C := by omega
        simp only [h3, dif_neg, not_false_eq_true]
        rw [show y * 5 + C + (i - min (y * 5) 25 - C) = i by omega]
        by_cases d : i / 5 < y + 1
        · rw [upRow, if_neg (by omega), upRow, if_pos d, whiteF, if_pos (by right; omega), imgF, if_neg (by omega)]
        · rw [upRow, if_neg (by omega), upRow, if_neg d]

theorem Try.builtImg : Try.prog.built 78 [] = some (vec 25 fun _ => 0) := by kernel_rfl
set_option maxHeartbeats 400000 in
theorem imageOf_no (v : Value) (m : List (List Int)) (w : World) (hin : InMat w v m) (h : okB m = false) :
    Calls Try.prog 74 #[v] w fun e w' => e = .returned (.tuple #[.agg (vec 25 fun _ => 0), .bool false]) ∧ Below w.heap.size w w' := by
  have HI := hide hin; have H := hide h
  clear hin h
  go_enter Try.func74, Try.ntmps74
  go_wp2_with (with_reducible refine wpList_allocVec 25 2 rfl rfl rfl Try.zeroImg ?_; intro w1 h1 b1 s1)
  have H1 := hide h1; have B1 := hide b1
  clear h1 b1
  go_wp2_with fail
  refine (implImageOk_any v m _ (inMat_below HI.out B1.out)).mono ?_
  rw [H.out]
  rintro e w2 ⟨rfl, rfl⟩
  go_wp2_with (first | (with_reducible refine wpList_buildVec 10 rfl rfl rfl Try.builtImg ?_) | (with_reducible refine wpList_storeVec H1.out rfl (.tmp 2) (.tmp 10) rfl rfl rfl Try.sizeImg ?_; intro w4 h4 g4 s4))
  refine bodyPost_ret (results_vec_tmp rfl _ _ w.heap.size 25 _ 78 _ _ rfl h4 Try.underlying78 Try.sizeImg) rfl ⟨rfl, ?_⟩
  exact B1.out.trans (grown_below g4 (fun k hk => by cases hk; exact Nat.le_refl _) B1.out.size)

set_option maxRecDepth 100000 in
set_option maxHeartbeats 1000000 in
theorem imageOf_yes (v : Value) (R C : Nat) (f : Nat → Nat → Int) (w : World) (hin : InMat w v (mkM R C f)) (hI : Img R C f) :
    Calls Try.prog 74 #[v] w fun e w' => e = .returned (.tuple #[.agg (vec 25 (imgF R C f)), .bool true]) ∧ Below w.heap.size w w' := by
  have HI := hide hin
  have hR := hI.r2; have hR1 := hI.r1; have hC := hI.c2; have hC1 := hI.c1
  have HOK := hide (img_ok hI)
  obtain ⟨g, o, c, rfl, hg, hcell⟩ := inMat_img hin (by omega) (by omega)
  have HC := hide hcell
  clear hin hcell hI
  go_enter Try.func74, Try.ntmps74
  go_wp2_with (with_reducible refine wpList_allocVec 25 2 rfl rfl rfl Try.zeroImg ?_; intro w1 h1 b1 s1)
  have H1 := hide h1; have B1 := hide b1
  clear h1 b1
  go_wp2_with fail
  refine (implImageOk_any _ _ _ (inMat_below HI.out B1.out)).mono ?_
  rw [HOK.out]
  rintro e w2 ⟨rfl, rfl⟩
  obtain ⟨g0, o0, c0, hx0, -⟩ := HC.out 0 (by omega)
  have hx0 := below_cell B1.out hg hx0
  rw [Nat.add_zero] at hx0
  go_wp2_with (first | (with_reducible refine (whiteImage_any (R : Int) (C : Int) _).mono ?_; rintro e w3 ⟨rfl, b3⟩) | (with_reducible refine wpList_allocVec 25 4 rfl rfl rfl Try.zeroImg ?_; intro w5 h5 b5 s5) | (with_reducible refine wpList_storeVec h5 rfl (.tmp 4) (.tmp 17) rfl rfl rfl Try.sizeImg ?_; intro w6 h6 g6 s6))
  have hlt3 : w.heap.size < w3.heap.size := by have := b3.size; omega
  have B3 := hide (B1.out.trans (b3.mono B1.out.size))
  have B6 := hide (B3.out.trans ((b5.mono B3.out.size).trans (grown_below g6 (fun k hk => by cases hk; omega) (by omega))))
  have H1 := hide (blk_grown (blk_below (blk_below H1.out b3) b5) g6 (by simp; omega))
  have h6' := hide h6
  have hs6 : w3.heap.size < w6.heap.size := blk_lt h6
  clear b3 b5 h5 s5 g6 s6 h6 hx0
  obtain ⟨p, hp⟩ : ∃ p, p = w3.heap.size := ⟨_, rfl⟩
  rw [← hp] at h6' hlt3 hs6 ⊢
  clear hp
  go_loopw [20] (fun i w' => ∃ y : Nat, y ≤ R ∧ i = .int .i64 y ∧ Blk w' p 78 25 (upRow R C f y) ∧ Blk w' w.heap.size 78 25 (fun _ => 0) ∧ Below w.heap.size w w') (fun i _ => R - (intOf i).toNat)
  case atStart => exact ⟨0, by omega, rfl, by rw [upRow_zero]; exact h6'.out, H1.out, B6.out⟩
  case round =>
    clear h6' H1 B6 B3 B1
    obtain ⟨y, hy, rfl, hp, hr, hb⟩ := hrel
    have HP := hide hp; have HR := hide hr; have HB := hide hb
    clear hp hr hb
    by_cases hlt : y < R
    · obtain ⟨g', o', c', hx, hg', hcell⟩ := HC.out y hlt
      have hx := below_cell HB.out hg hx
      have HCC := hide hcell
      have HP2 : Hid (wr.heap[p]? = some (.cells (vecL 25 (upRow R C f y)).toArray 78 (0, 0))) := HP.out
      have HST := hide (upRow_step R C f y hlt hR hC)
      have hyI : (y : Int) < 5 := by omega
      clear hcell
      obtain ⟨cs, hcs⟩ : ∃ cs, cs = ints (rowF C (f y)) := ⟨_, rfl⟩
      have HCS := hide hcs
      have hcl : cs.length = C := by rw [hcs, ints_len, rowF_len]
      have HCL := hide hcl
      clear hcs hcl
      have K1 : Hid (cs.length = Nat.min C 5) := hide (by rw [HCL.out]; show C = min C 5; omega)
      have K2 : Hid (0 < cs.length → some (⟨p, y * 5, none⟩ : Addr) = some ⟨p, y * 5, none⟩ ∧ ∃ ad, some (⟨g', o', none⟩ : Addr) = some ad ∧ ∀ j v, cs[j]? = some v → wr.cell? (ad.add j) = some v) := hide (by
        intro _
        refine ⟨rfl, _, rfl, fun j v hv => ?_⟩
        have hj : j < C := by have := (List.getElem?_eq_some_iff.1 hv).1; have := HCL.out; omega
        rw [HCS.out, ints_at _ j (by rw [rowF_len]; exact hj), rowF_at, Option.some.injEq] at hv
        subst hv
        rw [addr_add]
        exact below_cell HB.out hg' (HCC.out j hj))
      have K3 : Hid (y * 5 + cs.length ≤ (vecL 25 (upRow R C f y)).length) := hide (by rw [HCL.out, vecL_len]; omega)
      have K4 : Hid (∀ v ∈ cs, v.oneCell' = true) := hide (by
        intro v hv
        rw [HCS.out] at hv
        simp only [ints, List.mem_map] at hv
        obtain ⟨z, -, rfl⟩ := hv; rfl)
      go_wp2_with (first | (with_reducible refine wpList_indexAt y 26 rfl rfl _ _ rfl rfl rfl Try.underlying78 Try.sizeOf76 (by omega) ?_) | (refine wpList_copy_splice (o := ⟨some 29, _, _, _, _, _⟩) rfl (.tmp 27) (.tmp 28) 24 24 rfl 3 Try.underlying24 (by kernel_rfl) _ _ _ _ _ _ rfl rfl p (y * 5) (vecL 25 (upRow R C f y)) 78 HP2.out cs K1.out K2.out K3.out K4.out (w.heap.size + 1) wr (Below.refl _ _) hlt3 ?_; intro w7 h7 b7))
      go_roundw
      case rel =>
        refine ⟨y + 1, by omega, by go_num, ?_, ?_, HB.out.trans (b7.mono (by omega))⟩
        · have := h7.out
          rw [HCS.out, HST.out] at this; exact this
        · unfold Blk; rw [b7.block _ (Nat.lt_succ_self _)]; exact HR.out
      case measure => simp [intOf]; omega
    · obtain rfl : y = R := by omega
      have HP := hide (blk_congr HP.out (upRow_all y C f))
      go_wp2_with (first | (with_reducible refine wpList_loadVec HP.out 31 rfl rfl _ rfl rfl Try.underlying78 Try.sizeImg ?_) | (with_reducible refine wpList_storeVec HR.out rfl (.tmp 2) (.tmp 31) rfl rfl rfl Try.sizeImg ?_; intro w8 h8 g8 s8))
      refine bodyPost_ret (results_vec_tmp rfl _ _ w.heap.size 25 _ 78 _ _ rfl h8 Try.underlying78 Try.sizeImg) rfl ⟨rfl, ?_⟩
      exact HB.out.trans (grown_below g8 (fun k hk => by cases hk; exact Nat.le_refl _) HB.out.size)
end Go.Proofs.Ytcliiefedmiokaa
/-
  l02Empty of the model.
-/
namespace Go.Proofs.Ytcliiefedmiokaa
open Go.RowKit

set_option maxHeartbeats 1000000 in
theorem l02Empty_any (R C : Nat) (w : World) (hR : R ≤ 5) (hC : C ≤ 5) :
    Calls Try.prog 104 #[.int .i64 R, .int .i64 C] w (MatRes (mkM R C zeroM) w) := by
  have HZ : Hid (ints (rowF C (zeroM 0)) = List.replicate C (.int .i64 0)) := hide (by
    apply List.ext_getElem
    · simp [ints, rowF]
    · intro i h1 h2; simp [ints, rowF, zeroM])
  go_enter Try.func104, Try.ntmps104
  go_wp2
  go_loopw [5, 6] (fun o i w' => ∃ (y : Nat) (v : Value), y ≤ R ∧ i = .int .i64 y ∧ v = o ∧ OwnMat w' w.heap.size w'.heap.size v (mkM y C zeroM) ∧ Below w.heap.size w w') (fun _ i _ => R - (intOf i).toNat)
  case atStart => exact ⟨0, _, by omega, rfl, rfl, ⟨[], World.ownsRow_made (base := w.heap.size) w #[] 0 (Nat.le_refl _) (Nat.zero_le _) rfl, (fun k e => by simp [Value.ownBlock] at e; subst e; simp), (fun i h => absurd h (Nat.not_lt_zero _)), fun i j _ h => absurd h (Nat.not_lt_zero _)⟩, (Below.refl _ _).alloc (Nat.le_refl _) _⟩
  case round =>
    obtain ⟨y, v, hy, rfl, rfl, hown, hb⟩ := hrel
    have HO := hide hown; have HB := hide hb
    clear hown hb
    by_cases hlt : y < R
    · have hyI : (y : Int) < R := by omega
      have hsz := HB.out.size
      go_wp2_with (first | (at_make; refine wpList_new wr.heap.size C (.int .i64 0) rfl _ _ rfl Try.underlying24 Try.infoInt rfl (by decide) rfl rfl (by omega) (Nat.le_refl _) ?_; intro w1 hown1 hb1 hg1; have O1 := hide (ownMat_below HO.out hb1); have HU : Hid (w1.ownsRow wr.heap.size 3 1 (.slice (some ⟨wr.heap.size, 0, none⟩) C C) (rowF C (zeroM y)).length (ints (rowF C (zeroM y)))) := hide (by rw [rowF_len, show ints (rowF C (zeroM y)) = List.replicate C (.int .i64 0) from HZ.out]; exact hown1); have HB1 := hide (HB.out.trans (hb1.mono hsz)); have hs1 := hb1.size; clear hown1 hb1 hg1; obtain ⟨vs, hv, hvh, hvr, hva⟩ := O1.out; have hvl := mkM_len y C zeroM; rw [hvl] at hv; have HV := hide hv; have HVR := hide hvr; have HVA := hide hva; clear hv hvh hvr hva hvl) | (at_builtin; refine wpList_push HV.out (.slice (some ⟨wr.heap.size, 0, none⟩) C C) (.slice none 0 0) rfl _ _ rfl Try.underlying22 Try.infoInts rfl (by decide) rfl rfl rfl (by omega) (by omega) ?_; intro v' w6 hown1 hb1 hg1))
      go_roundw
      case rel =>
        have hs6 := hb1.size
        have hp := ownMat_push (r := rowF C (zeroM y)) (hi' := w6.heap.size) HVR.out HVA.out (by rw [mkM_len]; exact HV.out) (by rw [rowF_len]; have := HU.out; rw [rowF_len] at this; exact this) hsz (by omega) (by omega) hg1 (by rw [mkM_len]; exact hown1) (fun k e => (hown1.lt k e).2)
        rw [← mkM_succ] at hp
        exact ⟨y + 1, _, by omega, by go_num, rfl, hp, HB1.out.trans (hb1.mono (by omega))⟩
      case measure => simp [intOf]; omega
    · obtain rfl : y = R := by omega
      go_wp2
      go_ret
      exact ⟨_, rfl, HO.out, HB.out⟩

end Go.Proofs.Ytcliiefedmiokaa
/-
  LineSums of the model.
-/
namespace Go.Proofs.Ytcliiefedmiokaa
open Go.RowKit

theorem exec_makeI {ρ : Operand → Value} {o : Oper} {w : World} {x : Operand} {N : Nat} (ho : o.op = .makeSlice 24 x x) (hx : ρ x = .int .i64 N) (hN : N < 4000000) :
    ∃ w', (execOp ρ o).run Try.prog w = .ok (.value (.slice (some ⟨w.heap.size, 0, none⟩) N N)) w' ∧ w'.ownsRow w.heap.size 3 1 (.slice (some ⟨w.heap.size, 0, none⟩) N N) N (List.replicate N (.int .i64 0)) ∧ Below w.heap.size w w' := by
  obtain ⟨i0, hi, hz0, hz1, hz2⟩ := info_parts Try.infoInt
  obtain ⟨w', hrun, r1, r2⟩ := run_make_full (P := Try.prog) w w.heap.size 24 3 i0 (.int .i64 0) 1 Try.underlying24 hi hz0 hz1 .i64 .i64 N (by rw [hz2]; omega) (by unfold maxLen; omega) (Nat.le_refl _)
  refine ⟨w', ?_, ?_, grown_below r2 (fun k hk => by cases hk) (Nat.le_refl _)⟩
  · unfold execOp
    simp only [ho, hx]
    simp [hrun, Result.andThen]
  · rw [show (Value.int IntKind.i64 0).cells = #[.int .i64 0] from rfl, Nat.mul_one, toList_madeCells_one] at r1
    exact r1
/-- A new list of N zeros, in a block above B. -/
def newI (B N : Nat) : FactP := fun u w2 => ∃ G, u = .slice (some ⟨G, 0, none⟩) N N ∧ B < G ∧ w2.ownsRow G 3 1 (.slice (some ⟨G, 0, none⟩) N N) N (List.replicate N (.int .i64 0))
theorem stable_newI (B N : Nat) : StableP (newI B N) := fun _ _ _ hb h => ⟨h.choose, h.choose_spec.1, h.choose_spec.2.1, own_below h.choose_spec.2.2 hb⟩
theorem obt_makeI {Q : Exit → Act → World → Prop} {base : List (Tmp × Value)} {dsts : List (Option Tmp)} {S : World → Prop} {fs : List FactP} {i : Nat} {o : Oper} {x : Operand} {B N : Nat} (hst : ∀ f ∈ fs, StableP f) (ho : o.op = .makeSlice 24 x x) (hg : o.guard = none)
    (hx : SrcT base dsts fs o x (.int .i64 N)) (hN : N < 4000000) (hf : factP fs i = newI B N) (hB : ∀ w, S w → B < w.heap.size) (hS1 : ∀ w w', S w → Below w.heap.size w w' → S w') : Obt Try.prog Q base dsts S fs i o :=
  obt_make hst hg fun a w2 hS hs => by
    obtain ⟨w3, q1, q2, hh⟩ := exec_makeI (w := w2) ho (hs _ _ hx) hN
    exact ⟨_, _, q1, hS1 _ _ hS hh, hh, by rw [hf]; exact ⟨w2.heap.size, rfl, hB _ hS, q2⟩⟩
set_option maxHeartbeats 400000 in
theorem specLineSums_img (v : Value) (m : List (List Int)) (dx dy : Int) (w : World) (hin : InMat w v m) (h : okB m = false) :
    Calls Try.prog 23 #[v, .agg #[.int .i64 dx, .int .i64 dy]] w (IntsRes [] w) := by
  have HB := hide ((Below.refl w.heap.size w).alloc (Nat.le_refl _) (.cells #[.int .i64 dx, .int .i64 dy] 34))
  have HI := hide (inMat_below hin HB.out); have H := hide h
  clear hin h
  go_enter Try.func23, Try.ntmps23
  go_wp2_with ((with_reducible refine (specImageOk_any v m _ HI.out).mono ?_); rw [H.out]; rintro e w' ⟨rfl, rfl⟩)
  go_ret
  exact intsRes_nil HB.out
set_option maxHeartbeats 400000 in
theorem specLineSums_dir (v : Value) (m : List (List Int)) (dx dy : Int) (w : World) (hin : InMat w v m) (h : okB m = true) (hd : dirOk dx dy = false) :
    Calls Try.prog 23 #[v, .agg #[.int .i64 dx, .int .i64 dy]] w (IntsRes [] w) := by
  have HB := hide ((Below.refl w.heap.size w).alloc (Nat.le_refl _) (.cells #[.int .i64 dx, .int .i64 dy] 34))
  have HI := hide (inMat_below hin HB.out); have H := hide h; have HD := hide hd
  clear hin h hd
  go_enter Try.func23, Try.ntmps23
  go_wp2_with (first | ((with_reducible refine (specImageOk_any v m _ HI.out).mono ?_); rw [H.out]; rintro e w' ⟨rfl, rfl⟩) | ((with_reducible refine (specDirectionOk_any dx dy _).mono ?_); rw [HD.out]; rintro e w1 ⟨rfl, hb⟩; have HB1 := hide (HB.out.trans (hb.mono HB.out.size)); clear hb))
  go_ret
  exact intsRes_nil HB1.out

theorem onL_step {R C : Nat} {f : Nat → Nat → Int} {dx dy : Int} (hI : Img R C f) {y x : Nat} (hy : y < R) (hx : x < C) {N k : Nat} (hk : (k : Int) = lnum dx dy C y x) (z : Int) (hz : f y x = z) :
    (rowF N fun i => if i = k then ((cnt (onL C f (dx, dy) k) (C * y + x) : Nat) : Int) + z else (cnt (onL C f (dx, dy) i) (C * y + x) : Nat)) = rowF N fun i => (cnt (onL C f (dx, dy) i) (C * y + (x + 1)) : Nat) := by
  refine rowF_congr fun i _ => ?_
  have e : onL C f (dx, dy) i (C * y + x) = (f y x == 1 && lnum dx dy C y x == i) := onL_at hx
  have hc := hI.cell y x hy hx
  rw [← Nat.add_assoc]
  by_cases h : i = k
  · subst h
    rw [if_pos rfl]
    rcases hc with h0 | h1
    · rw [cnt_no (by rw [e, h0]; rfl), ← hz, h0]; simp
    · rw [cnt_yes (by rw [e, h1, ← hk]; simp), ← hz, h1]; simp
  · rw [if_neg h, cnt_no]
    rw [e, ← hk]
    have : ((k : Int) == (i : Int)) = false := by simp; omega
    rw [this, Bool.and_false]

set_option maxRecDepth 100000 in
set_option maxHeartbeats 4000000 in
theorem specLineSums_yes (v : Value) (R C N : Nat) (f : Nat → Nat → Int) (dx dy : Int) (w : World) (hin : InMat w v (mkM R C f)) (hI : Img R C f) (hd : dirOk dx dy = true) (hN : (N : Int) = countL R C dx dy) (hN2 : N ≤ 41) :
    Calls Try.prog 23 #[v, .agg #[.int .i64 dx, .int .i64 dy]] w (IntsRes (lineRow R C f dx dy N) w) := by
  have hb0 := (Below.refl w.heap.size w).alloc (Nat.le_refl _) (.cells #[.int .i64 dx, .int .i64 dy] 34)
  have HI := hide hI; have HD := hide hd; have HN := hide (near_of hd); have HNN := hide hN
  have HIN0 := hide (inMat_below hin hb0)
  have HB0 := hide hb0
  have hso : sizeOk R C = true := by rw [sizeOk, decide_eq_true (show (1 : Int) ≤ R ∧ (R : Int) ≤ 5 by have := hI.r1; have := hI.r2; omega), decide_eq_true (show (1 : Int) ≤ C ∧ (C : Int) ≤ 5 by have := hI.c1; have := hI.c2; omega)]; rfl
  have HZ : Hid ((sizeOk R C && dirOk dx dy) = true) := hide (by rw [hd, hso]; rfl)
  have HSO := hide hso
  obtain ⟨g, o, cap, rfl, hg, hrow⟩ := inMat_img hin (by have := hI.r1; omega) (by have := hI.c1; omega)
  have HROW := hide hrow
  obtain ⟨r1, r2, c1, c2, -⟩ := hI
  obtain ⟨g1, o1, k1, hcr, -, -⟩ := hrow 0 (by omega)
  rw [Nat.add_zero] at hcr
  have HCR := hide hcr
  have hR0 : 0 < R := by omega
  have HG0 := hide (show DirAt (w.alloc (.cells #[.int .i64 dx, .int .i64 dy] 34)) w.heap.size dx dy from heap_alloc_new w _)
  clear hin hd hN hrow hb0 hcr hso
  go_enter Try.func23, Try.ntmps23
  go_wp2_with (first | ((with_reducible refine (specImageOk_any _ _ _ HIN0.out).mono ?_); rw [img_ok HI.out]; rintro e w' ⟨rfl, rfl⟩) | ((with_reducible refine (specDirectionOk_any dx dy _).mono ?_); rw [HD.out]; rintro e w1 ⟨rfl, hb⟩; have HB1 := hide (HB0.out.trans (hb.mono HB0.out.size)); have HG1 := hide (dirAt_below HG0.out hb); clear hb))
  obtain ⟨fs, hfs⟩ : ∃ fs : List FactP, fs = [isV (.slice (some ⟨g, o, none⟩) R cap), isV (.int .i64 R), isV (.slice (some ⟨g, o, none⟩) R cap), isV (.pointer (some ⟨g, o, none⟩)), isV (.slice (some ⟨g1, o1, none⟩) C k1), isV (.int .i64 C), isV (.agg #[.int .i64 dx, .int .i64 dy]), isV (.int .i64 N), newI w.heap.size N] := ⟨_, rfl⟩
  have hst : ∀ f ∈ fs, StableP f := by
    rw [hfs]; intro f hf
    simp only [List.mem_cons, List.not_mem_nil, or_false] at hf
    rcases hf with rfl | rfl | rfl | rfl | rfl | rfl | rfl | rfl | rfl <;> first | exact stable_v _ | exact stable_newI _ _
  subst hfs
  refine wp_region_tail (S := fun w2 => DirAt w2 w.heap.size dx dy ∧ Below w.heap.size w w2) [isV (.slice (some ⟨g, o, none⟩) R cap), isV (.int .i64 R), isV (.slice (some ⟨g, o, none⟩) R cap), isV (.pointer (some ⟨g, o, none⟩)), isV (.slice (some ⟨g1, o1, none⟩) C k1), isV (.int .i64 C), isV (.agg #[.int .i64 dx, .int .i64 dy]), isV (.int .i64 N), newI w.heap.size N] [(0, .slice (some ⟨g, o, none⟩) R cap), (3, .pointer (some ⟨w.heap.size, 0, none⟩))] _ _ 9 (by kernel_rfl) rfl rfl (by kernel_rfl) (by kernel_rfl) rfl (by kernel_rfl) ?base ⟨HG1.out, below_drew HB1.out⟩ ?ob rfl ?fin
  case base =>
    intro t v ht
    simp only [List.lookup_cons, List.lookup_nil] at ht
    repeat' split at ht
    all_goals first | (cases ht; done) | (obtain rfl := Option.some.inj ht; rename_i hh; obtain rfl := eq_of_beq hh; rfl)
  case ob =>
    exact ⟨obt_move (.slice (some ⟨g, o, none⟩) R cap) rfl rfl rfl (srt_b 0 rfl),
      obt_one (.int .i64 R) rfl rfl (srt_j 0 rfl (by kernel_rfl) rfl) (fun ρ w2 hS hx => by go_simp),
      obt_move (.slice (some ⟨g, o, none⟩) R cap) rfl rfl rfl (srt_b 0 rfl),
      obt_two (.pointer (some ⟨g, o, none⟩)) rfl rfl (srt_j 2 rfl (by kernel_rfl) rfl) (srt_c (v := .int .i64 0)) (fun ρ w2 hS hx hy => by go_simp),
      obt_one (.slice (some ⟨g1, o1, none⟩) C k1) rfl rfl (srt_j 3 rfl (by kernel_rfl) rfl) (fun ρ w2 hS hx => by have hc := below_cell hS.2 hg HCR.out; go_simp),
      obt_one (.int .i64 C) rfl rfl (srt_j 4 rfl (by kernel_rfl) rfl) (fun ρ w2 hS hx => by go_simp),
      obt_one (.agg #[.int .i64 dx, .int .i64 dy]) rfl rfl (srt_b 3 rfl) (fun ρ w2 hS hx => exec_loadDir rfl hx hS.1),
      obt_call hst [.int .i64 R, .int .i64 C, .agg #[.int .i64 dx, .int .i64 dy]] rfl Try.func58 (by kernel_rfl) (by kernel_rfl) rfl ⟨(srt_j 1 rfl (by kernel_rfl) rfl), (srt_j 5 rfl (by kernel_rfl) rfl), (srt_j 6 rfl (by kernel_rfl) rfl), trivial⟩ (fun w2 hS => (specCountLines_any R C dx dy w2).mono fun e w3 ⟨he, hh⟩ => ⟨_, he, ⟨dirAt_below hS.1 hh, hS.2.trans (hh.mono hS.2.size)⟩, hh, by rw [if_pos HZ.out, ← HNN.out]; rfl⟩),
      obt_makeI hst rfl rfl (srt_j 7 rfl (by kernel_rfl) rfl) (by omega) rfl (fun w2 hS => (Array.getElem?_eq_some_iff.1 hS.1).1) (fun w2 w3 hS hh => ⟨dirAt_below hS.1 hh, hS.2.trans (hh.mono hS.2.size)⟩),
      trivial⟩
  case fin =>
    intro a' w' h1 h2 h3 hS h4 K hK
    obtain ⟨G, hu, hGw, ho⟩ := h4 8 27 rfl (by decide)
    have hv : a'.eval (.tmp 27) = .slice (some ⟨G, 0, none⟩) N N := hu
    refine tail_assign rfl hv ?_ K hK
    have ha : a' = ⟨List.toArray [.slice (some ⟨g, o, none⟩) R cap, .agg #[.int .i64 dx, .int .i64 dy], undef, .pointer (some ⟨w.heap.size, 0, none⟩), .slice none 0 0, a'.tmps.getD 5 undef, undef, undef, undef, undef, undef, .slice (some ⟨g, o, none⟩) R cap, .bool true, .bool false, .bool false, .agg #[.int .i64 dx, .int .i64 dy], .bool true, .bool false, .bool false, a'.tmps.getD 19 undef, a'.tmps.getD 20 undef, a'.tmps.getD 21 undef, a'.tmps.getD 22 undef, a'.tmps.getD 23 undef, a'.tmps.getD 24 undef, a'.tmps.getD 25 undef, a'.tmps.getD 26 undef, a'.tmps.getD 27 undef, undef, undef, undef, undef, undef, undef, undef, undef, undef, undef, undef, undef, undef, undef, undef, undef, undef, undef, undef, undef, undef, undef, undef, undef, undef, undef, undef, undef, undef, undef, undef, undef, undef, undef, undef, undef], []⟩ := frame_eq _ h1 h2 ⟨(h3 0 (by kernel_rfl)), (h3 1 (by kernel_rfl)), (h3 2 (by kernel_rfl)), (h3 3 (by kernel_rfl)), (h3 4 (by kernel_rfl)), rfl, (h3 6 (by kernel_rfl)), (h3 7 (by kernel_rfl)), (h3 8 (by kernel_rfl)), (h3 9 (by kernel_rfl)), (h3 10 (by kernel_rfl)), (h3 11 (by kernel_rfl)), (h3 12 (by kernel_rfl)), (h3 13 (by kernel_rfl)), (h3 14 (by kernel_rfl)), (h3 15 (by kernel_rfl)), (h3 16 (by kernel_rfl)), (h3 17 (by kernel_rfl)), (h3 18 (by kernel_rfl)), rfl, rfl, rfl, rfl, rfl, rfl, rfl, rfl, rfl, (h3 28 (by kernel_rfl)), (h3 29 (by kernel_rfl)), (h3 30 (by kernel_rfl)), (h3 31 (by kernel_rfl)), (h3 32 (by kernel_rfl)), (h3 33 (by kernel_rfl)), (h3 34 (by kernel_rfl)), (h3 35 (by kernel_rfl)), (h3 36 (by kernel_rfl)), (h3 37 (by kernel_rfl)), (h3 38 (by kernel_rfl)), (h3 39 (by kernel_rfl)), (h3 40 (by kernel_rfl)), (h3 41 (by kernel_rfl)), (h3 42 (by kernel_rfl)), (h3 43 (by kernel_rfl)), (h3 44 (by kernel_rfl)), (h3 45 (by kernel_rfl)), (h3 46 (by kernel_rfl)), (h3 47 (by kernel_rfl)), (h3 48 (by kernel_rfl)), (h3 49 (by kernel_rfl)), (h3 50 (by kernel_rfl)), (h3 51 (by kernel_rfl)), (h3 52 (by kernel_rfl)), (h3 53 (by kernel_rfl)), (h3 54 (by kernel_rfl)), (h3 55 (by kernel_rfl)), (h3 56 (by kernel_rfl)), (h3 57 (by kernel_rfl)), (h3 58 (by kernel_rfl)), (h3 59 (by kernel_rfl)), (h3 60 (by kernel_rfl)), (h3 61 (by kernel_rfl)), (h3 62 (by kernel_rfl)), (h3 63 (by kernel_rfl)), trivial⟩
    rw [ha]
    have HO := hide ho; have HG := hide hS.1; have HB := hide hS.2
    have hGs := (ho.lt _ rfl).2
    clear hu ho hv h1 h2 h3 h4 hS hst ha hK
    generalize a'.tmps.getD 5 undef = p5
    generalize a'.tmps.getD 19 undef = p19
    generalize a'.tmps.getD 20 undef = p20
    generalize a'.tmps.getD 21 undef = p21
    generalize a'.tmps.getD 22 undef = p22
    generalize a'.tmps.getD 23 undef = p23
    generalize a'.tmps.getD 24 undef = p24
    generalize a'.tmps.getD 25 undef = p25
    generalize a'.tmps.getD 26 undef = p26
    generalize a'.tmps.getD 27 undef = p27
    go_wp2
    go_loopw [30] (fun i wr => ∃ y : Nat, y ≤ R ∧ i = .int .i64 y ∧ wr.ownsRow G 3 1 (.slice (some ⟨G, 0, none⟩) N N) N (ints (rowF N fun i => (cnt (onL C f (dx, dy) i) (C * y) : Nat))) ∧ Below w.heap.size w wr ∧ DirAt wr w.heap.size dx dy) (fun i _ => R - (intOf i).toNat)
    case atStart =>
      have e : List.replicate N (Value.int .i64 0) = ints (rowF N fun i => (cnt (onL C f (dx, dy) i) (C * 0) : Nat)) := zeros_rowF N
      exact ⟨0, Nat.zero_le _, rfl, by rw [← e]; exact HO.out, HB.out, HG.out⟩
    case round =>
      obtain ⟨y, hy, rfl, ho, hb, hg2⟩ := hrel
      have HO1 := hide ho; have HB1 := hide hb; have HG1 := hide hg2
      have hgw := (ho.lt _ rfl).2
      clear ho hb hg2
      by_cases hly : y < R
      · obtain ⟨g', o', c', hcr, hg', hcell⟩ := HROW.out y hly
        have hcr := below_cell HB1.out hg hcr
        have HCELL := hide hcell
        clear hcell
        go_wp2
        go_loopw [37] (fun i wr => ∃ x : Nat, x ≤ C ∧ i = .int .i64 x ∧ wr.ownsRow G 3 1 (.slice (some ⟨G, 0, none⟩) N N) N (ints (rowF N fun i => (cnt (onL C f (dx, dy) i) (C * y + x) : Nat))) ∧ Below w.heap.size w wr ∧ DirAt wr w.heap.size dx dy) (fun i _ => C - (intOf i).toNat)
        case atStart => exact ⟨0, Nat.zero_le _, rfl, HO1.out, HB1.out, HG1.out⟩
        case round =>
          obtain ⟨x, hx, rfl, ho, hb, hg2⟩ := hrel
          have HO2 := hide ho; have HB2 := hide hb; have HG2 := hide hg2
          have hgw := (ho.lt _ rfl).2
          clear ho hb hg2
          by_cases hlx : x < C
          · have hcx := below_cell HB2.out hg' (HCELL.out x hlx)
            obtain ⟨p1, p2, p3⟩ := lnum_range (rows := R) (cols := C) (y := y) (x := x) HN.out (by omega) (by omega) (by omega) (by omega) (by omega) (by omega) (by omega) (by omega)
            have hlo : lineOf R C dx dy y x = lnum dx dy C y x := by
              rw [lineOf, if_pos ⟨⟨HSO.out, HD.out⟩, ⟨by omega, by omega⟩, by omega, by omega⟩]
            have hkN : lnum dx dy C y x < N := by rw [HNN.out]; unfold countL; omega
            obtain ⟨k, hk⟩ : ∃ k : Nat, (k : Int) = lnum dx dy C y x := ⟨(lnum dx dy C y x).toNat, by omega⟩
            have HLO : Hid (lineOf R C dx dy y x = k) := hide (by rw [hlo, hk])
            have hkN : k < N := by omega
            have hz := HI.out.cell y x hly hlx
            have HST := hide (fun z hz => onL_step HI.out hly hlx (N := N) hk z hz)
            obtain ⟨z, HZ1⟩ : ∃ z, Hid (f y x = z) := ⟨_, hide rfl⟩
            rw [HZ1.out] at hcx
            have hzb : 0 ≤ z ∧ z ≤ 1 := by rw [← HZ1.out]; rcases hz with e | e <;> rw [e] <;> decide
            obtain ⟨hz0, hz1⟩ := hzb
            clear hlo hk hz p1 p2 p3
            go_upto_region 10 with fail
            obtain ⟨fs, hfs⟩ : ∃ fs : List FactP, fs = [isV (.slice (some ⟨g, o, none⟩) R cap), isV (.int .i64 R), isV (.slice (some ⟨g, o, none⟩) R cap), isV (.pointer (some ⟨g, o, none⟩)), isV (.slice (some ⟨g1, o1, none⟩) C k1), isV (.int .i64 C), isV (.agg #[.int .i64 dx, .int .i64 dy]), isV (.int .i64 y), isV (.int .i64 x), isV (.int .i64 k)] := ⟨_, rfl⟩
            have hst : ∀ f ∈ fs, StableP f := by
              rw [hfs]; intro f hf
              simp only [List.mem_cons, List.not_mem_nil, or_false] at hf
              rcases hf with rfl | rfl | rfl | rfl | rfl | rfl | rfl | rfl | rfl | rfl <;> exact stable_v _
            subst hfs
            refine wp_region_tail (S := fun w2 => DirAt w2 w.heap.size dx dy ∧ Below w.heap.size w w2 ∧ w2.ownsRow G 3 1 (.slice (some ⟨G, 0, none⟩) N N) N (ints (rowF N fun i => (cnt (onL C f (dx, dy) i) (C * y + x) : Nat)))) [isV (.slice (some ⟨g, o, none⟩) R cap), isV (.int .i64 R), isV (.slice (some ⟨g, o, none⟩) R cap), isV (.pointer (some ⟨g, o, none⟩)), isV (.slice (some ⟨g1, o1, none⟩) C k1), isV (.int .i64 C), isV (.agg #[.int .i64 dx, .int .i64 dy]), isV (.int .i64 y), isV (.int .i64 x), isV (.int .i64 k)] [(0, .slice (some ⟨g, o, none⟩) R cap), (3, .pointer (some ⟨w.heap.size, 0, none⟩)), (6, .int .i64 y), (8, .int .i64 x)] _ _ 10 (by kernel_rfl) rfl rfl (by kernel_rfl) (by kernel_rfl) rfl (by kernel_rfl) ?base ⟨HG2.out, below_drew HB2.out, HO2.out⟩ ?ob rfl ?fin
            case base =>
              intro t v ht
              simp only [List.lookup_cons, List.lookup_nil] at ht
              repeat' split at ht
              all_goals first | (cases ht; done) | (obtain rfl := Option.some.inj ht; rename_i hh; obtain rfl := eq_of_beq hh; rfl)
            case ob =>
              exact ⟨obt_move (.slice (some ⟨g, o, none⟩) R cap) rfl rfl rfl (srt_b 0 rfl),
                obt_one (.int .i64 R) rfl rfl (srt_j 0 rfl (by kernel_rfl) rfl) (fun ρ w2 hS hx => by go_simp),
                obt_move (.slice (some ⟨g, o, none⟩) R cap) rfl rfl rfl (srt_b 0 rfl),
                obt_two (.pointer (some ⟨g, o, none⟩)) rfl rfl (srt_j 2 rfl (by kernel_rfl) rfl) (srt_c (v := .int .i64 0)) (fun ρ w2 hS hx hy => by go_simp),
                obt_one (.slice (some ⟨g1, o1, none⟩) C k1) rfl rfl (srt_j 3 rfl (by kernel_rfl) rfl) (fun ρ w2 hS hx => by have hc := below_cell hS.2.1 hg HCR.out; go_simp),
                obt_one (.int .i64 C) rfl rfl (srt_j 4 rfl (by kernel_rfl) rfl) (fun ρ w2 hS hx => by go_simp),
                obt_one (.agg #[.int .i64 dx, .int .i64 dy]) rfl rfl (srt_b 3 rfl) (fun ρ w2 hS hx => exec_loadDir rfl hx hS.1),
                obt_move (.int .i64 y) rfl rfl rfl (srt_b 6 rfl),
                obt_move (.int .i64 x) rfl rfl rfl (srt_b 8 rfl),
                obt_call hst [.int .i64 R, .int .i64 C, .agg #[.int .i64 dx, .int .i64 dy], .int .i64 y, .int .i64 x] rfl Try.func59 (by kernel_rfl) (by kernel_rfl) rfl ⟨(srt_j 1 rfl (by kernel_rfl) rfl), (srt_j 5 rfl (by kernel_rfl) rfl), (srt_j 6 rfl (by kernel_rfl) rfl), (srt_j 7 rfl (by kernel_rfl) rfl), (srt_j 8 rfl (by kernel_rfl) rfl), trivial⟩ (fun w2 hS => (specLineOf_any R C dx dy y x w2).mono fun e w3 ⟨he, hh⟩ => ⟨_, he, ⟨dirAt_below hS.1 hh, hS.2.1.trans (hh.mono hS.2.1.size), own_below hS.2.2 hh⟩, hh, by rw [HLO.out]; rfl⟩),
                trivial⟩
            case fin =>
              intro a' w' h1 h2 h3 hS h4 K hK
              have hv : a'.eval (.tmp 51) = .int .i64 k := h4 9 51 rfl (by decide)
              refine tail_assign rfl hv ?_ K hK
              have ha : a' = ⟨List.toArray [.slice (some ⟨g, o, none⟩) R cap, .agg #[.int .i64 dx, .int .i64 dy], undef, .pointer (some ⟨w.heap.size, 0, none⟩), .slice none 0 0, .slice (some ⟨G, 0, none⟩) N N, .int .i64 y, .slice (some ⟨g', o', none⟩) C c', .int .i64 x, .int .i64 z, a'.tmps.getD 10 undef, .slice (some ⟨g, o, none⟩) R cap, .bool true, .bool false, .bool false, .agg #[.int .i64 dx, .int .i64 dy], .bool true, .bool false, .bool false, p19, p20, p21, p22, p23, p24, p25, p26, p27, .slice (some ⟨g, o, none⟩) R cap, .int .i64 R, .int .i64 y, .bool true, .int .i64 y, .pointer (some ⟨g, o + y, none⟩), .slice (some ⟨g', o', none⟩) C c', .slice (some ⟨g', o', none⟩) C c', .int .i64 C, .int .i64 x, .bool true, .int .i64 x, .pointer (some ⟨g', o' + x, none⟩), .int .i64 z, a'.tmps.getD 42 undef, a'.tmps.getD 43 undef, a'.tmps.getD 44 undef, a'.tmps.getD 45 undef, a'.tmps.getD 46 undef, a'.tmps.getD 47 undef, a'.tmps.getD 48 undef, a'.tmps.getD 49 undef, a'.tmps.getD 50 undef, a'.tmps.getD 51 undef, u52, u53, u54, u55, u56, u57, u58, u59, u60, u61, u62, undef], []⟩ := frame_eq _ h1 h2 ⟨(h3 0 (by kernel_rfl)), (h3 1 (by kernel_rfl)), (h3 2 (by kernel_rfl)), (h3 3 (by kernel_rfl)), (h3 4 (by kernel_rfl)), (h3 5 (by kernel_rfl)), (h3 6 (by kernel_rfl)), (h3 7 (by kernel_rfl)), (h3 8 (by kernel_rfl)), (h3 9 (by kernel_rfl)), rfl, (h3 11 (by kernel_rfl)), (h3 12 (by kernel_rfl)), (h3 13 (by kernel_rfl)), (h3 14 (by kernel_rfl)), (h3 15 (by kernel_rfl)), (h3 16 (by kernel_rfl)), (h3 17 (by kernel_rfl)), (h3 18 (by kernel_rfl)), (h3 19 (by kernel_rfl)), (h3 20 (by kernel_rfl)), (h3 21 (by kernel_rfl)), (h3 22 (by kernel_rfl)), (h3 23 (by kernel_rfl)), (h3 24 (by kernel_rfl)), (h3 25 (by kernel_rfl)), (h3 26 (by kernel_rfl)), (h3 27 (by kernel_rfl)), (h3 28 (by kernel_rfl)), (h3 29 (by kernel_rfl)), (h3 30 (by kernel_rfl)), (h3 31 (by kernel_rfl)), (h3 32 (by kernel_rfl)), (h3 33 (by kernel_rfl)), (h3 34 (by kernel_rfl)), (h3 35 (by kernel_rfl)), (h3 36 (by kernel_rfl)), (h3 37 (by kernel_rfl)), (h3 38 (by kernel_rfl)), (h3 39 (by kernel_rfl)), (h3 40 (by kernel_rfl)), (h3 41 (by kernel_rfl)), rfl, rfl, rfl, rfl, rfl, rfl, rfl, rfl, rfl, rfl, (h3 52 (by kernel_rfl)), (h3 53 (by kernel_rfl)), (h3 54 (by kernel_rfl)), (h3 55 (by kernel_rfl)), (h3 56 (by kernel_rfl)), (h3 57 (by kernel_rfl)), (h3 58 (by kernel_rfl)), (h3 59 (by kernel_rfl)), (h3 60 (by kernel_rfl)), (h3 61 (by kernel_rfl)), (h3 62 (by kernel_rfl)), (h3 63 (by kernel_rfl)), trivial⟩
              rw [ha]
              have HO3 := hide hS.2.2; have HB3 := hide hS.2.1; have HG3 := hide hS.1
              have hcl := cell_held hS.2.2 hkN
              have hfz := hS.2.2.frozenAt k
              have hcv : (ints (rowF N fun i => (cnt (onL C f (dx, dy) i) (C * y + x) : Nat))).getD k undef = .int .i64 (cnt (onL C f (dx, dy) k) (C * y + x) : Nat) := by
                rw [List.getD_eq_getElem?_getD, ints_at _ k (by rw [rowF_len]; exact hkN), rowF_at]; rfl
              rw [hcv] at hcl
              obtain ⟨q, HQ⟩ : ∃ q : Nat, Hid (cnt (onL C f (dx, dy) k) (C * y + x) = q) := ⟨_, hide rfl⟩
              have hqb : q ≤ 100 := by
                have h1 := cnt_le (onL C f (dx, dy) k) (C * y + x)
                have h2 : C * y ≤ 5 * 5 := Nat.mul_le_mul c2 (by omega)
                rw [← HQ.out]; omega
              rw [HQ.out] at hcl
              have hgw3 := (hS.2.2.lt _ rfl).2
              clear hcv hv h1 h2 h3 h4 hS hst ha hK
              generalize a'.tmps.getD 10 undef = q10
              generalize a'.tmps.getD 42 undef = q42
              generalize a'.tmps.getD 43 undef = q43
              generalize a'.tmps.getD 44 undef = q44
              generalize a'.tmps.getD 45 undef = q45
              generalize a'.tmps.getD 46 undef = q46
              generalize a'.tmps.getD 47 undef = q47
              generalize a'.tmps.getD 48 undef = q48
              generalize a'.tmps.getD 49 undef = q49
              generalize a'.tmps.getD 50 undef = q50
              generalize a'.tmps.getD 51 undef = q51
              obtain ⟨s1, s2⟩ := HO3.out.stored k (.int .i64 (q + z))
              have s2' : w'.grownBy (w'.setCell ⟨G, k, none⟩ (.int .i64 (q + z))) (some G) := s2
              have HS1 : Hid ((w'.setCell ⟨G, k, none⟩ (.int .i64 (q + z))).ownsRow G 3 1 (.slice (some ⟨G, 0, none⟩) N N) N (ints (rowF N fun i => (cnt (onL C f (dx, dy) i) (C * y + (x + 1)) : Nat)))) := hide (by
                rw [ints_set, rowF_set] at s1
                rw [← HST.out z HZ1.out, HQ.out]; exact s1)
              have HS2 := hide (HB3.out.trans (grown_below s2' (fun k hk => by cases hk; omega) HB3.out.size))
              have HS3 : Hid (DirAt (w'.setCell ⟨G, k, none⟩ (.int .i64 (q + z))) w.heap.size dx dy) := hide (by
                unfold DirAt; rw [s2'.block _ (Array.getElem?_eq_some_iff.1 HG3.out).1 (by simp; omega)]; exact HG3.out)
              clear s1 s2 s2'
              go_wp2
              go_roundw
              case rel => exact ⟨x + 1, by omega, by go_num, HS1.out, HS2.out, HS3.out⟩
              case measure => simp [intOf]; omega
          · obtain rfl : x = C := by omega
            go_wp2
            go_roundw
            case rel => exact ⟨y + 1, by omega, by go_num, by rw [Nat.mul_succ]; exact HO2.out, HB2.out, HG2.out⟩
            case measure => simp [intOf]; omega
      · obtain rfl : y = R := by omega
        go_wp2
        go_ret
        refine ⟨_, rfl, ?_, HB1.out⟩
        have e : lineRow y C f dx dy N = rowF N fun i => (cnt (onL C f (dx, dy) i) (C * y) : Nat) := by rw [lineRow, Nat.mul_comm]
        rw [e, rowF_len]
        exact own_base HO1.out (by omega)
end Go.Proofs.Ytcliiefedmiokaa
