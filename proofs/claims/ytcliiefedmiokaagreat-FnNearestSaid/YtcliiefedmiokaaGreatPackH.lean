/-
  Texts of this claim, one behind the other: LSums, Rs, SumF, RowSS, RowS, Cancel, Conn.
-/
import Derived.Test.YtcliiefedmiokaaGreatPackG
import Derived.Test.YtcliiefedmiokaaGreatPackE
import Derived.Test.YtcliiefedmiokaaGreatPackA
import Derived.Test.YtcliiefedmiokaaGreatPackB
/-
  LineSums of the program.
-/
namespace Go.Proofs.YtcliiefedmiokaaGreat
open Go.RowKit Go.Maps

theorem exec_dirs1 {ρ : Operand → Value} {o : Oper} {w : World} {x : Operand} {dx dy : Int} (ho : o.op = .buildSlice 113 1 #[(0, x)]) (hx : ρ x = .agg #[.int .i64 dx, .int .i64 dy]) :
    (execOp ρ o).run Tryz.prog w = .ok (.value (.slice (some ⟨w.heap.size, 0, none⟩) 1 1)) (w.alloc (.cells #[.int .i64 dx, .int .i64 dy] 58)) := by
  unfold execOp
  simp only [ho]
  go_simp
theorem exec_dirs2 {ρ : Operand → Value} {o : Oper} {w : World} {x y : Operand} {dx dy ex ey : Int} (ho : o.op = .buildSlice 113 2 #[(0, x), (1, y)]) (hx : ρ x = .agg #[.int .i64 dx, .int .i64 dy]) (hy : ρ y = .agg #[.int .i64 ex, .int .i64 ey]) :
    (execOp ρ o).run Tryz.prog w = .ok (.value (.slice (some ⟨w.heap.size, 0, none⟩) 2 2)) (w.alloc (.cells #[.int .i64 dx, .int .i64 dy, .int .i64 ex, .int .i64 ey] 58)) := by
  unfold execOp
  simp only [ho]
  go_simp
theorem inDirs1 (w : World) (dx dy : Int) : InDirs (w.alloc (.cells #[.int .i64 dx, .int .i64 dy] 58)) (.slice (some ⟨w.heap.size, 0, none⟩) 1 1) [(dx, dy)] := by
  refine ⟨w.heap.size, 1, rfl, by simp, fun i hi => ?_⟩
  have : i = 0 := by simp at hi; omega
  subst this
  exact ⟨by simp [World.cell?_alloc_new], by simp [World.cell?_alloc_new]⟩
theorem inDirs2 (w : World) (dx dy ex ey : Int) : InDirs (w.alloc (.cells #[.int .i64 dx, .int .i64 dy, .int .i64 ex, .int .i64 ey] 58)) (.slice (some ⟨w.heap.size, 0, none⟩) 2 2) [(dx, dy), (ex, ey)] := by
  refine ⟨w.heap.size, 2, rfl, by simp, fun i hi => ?_⟩
  have : i = 0 ∨ i = 1 := by simp at hi; omega
  rcases this with rfl | rfl
  · exact ⟨by simp [World.cell?_alloc_new], by simp [World.cell?_alloc_new]⟩
  · exact ⟨by simp [World.cell?_alloc_new], by simp [World.cell?_alloc_new]⟩

theorem cnt_pos {p : Nat → Bool} {N : Nat} (h : cnt p N ≠ 0) : ∃ i, i < N ∧ p i = true := by
  induction N with
  | zero => exact absurd rfl h
  | succ N ih =>
    cases e : p N with
    | true => exact ⟨N, Nat.lt_succ_self _, e⟩
    | false =>
      rw [cnt_no e] at h
      obtain ⟨i, hi, hp⟩ := ih h
      exact ⟨i, Nat.lt_succ_of_lt hi, hp⟩
/-- The number of black cells on each line. -/
def lineRow (R C : Nat) (f : Nat → Nat → Int) (dx dy : Int) (N : Nat) : List Int := rowF N fun i => (cnt (onL C f (dx, dy) i) (R * C) : Nat)
theorem line_one {R C : Nat} {f : Nat → Nat → Int} {dx dy : Int} (i : Nat) : linesC C f (R * C) ⟨dx, dy, i⟩ [(dx, dy)] = (cnt (onL C f (dx, dy) i) (R * C) : Nat) := by
  simp [linesC, lineC]
theorem line_there {R C N : Nat} {f : Nat → Nat → Int} {dx dy : Int} (hn : Near dx dy) (hR : 1 ≤ R ∧ R ≤ 5) (hC : 1 ≤ C ∧ C ≤ 5) (hN : (N : Int) = countL R C dx dy) (k : Key) (h : thereK (fun k => linesC C f (R * C) k [(dx, dy)]) k = true) : (k.x = dx ∧ k.y = dy) ∧ 0 ≤ k.n ∧ k.n < N := by
  simp only [thereK, linesC, Int.add_zero, decide_eq_true_eq] at h
  unfold lineC at h
  by_cases e : k.x = dx ∧ k.y = dy
  · rw [if_pos e] at h
    obtain ⟨i, hi, hp⟩ := cnt_pos (p := onL C f (dx, dy) k.n) (N := R * C) (by omega)
    simp only [onL, Bool.and_eq_true, beq_iff_eq] at hp
    have hx := Nat.mod_lt i (show C > 0 by omega)
    have hy : i / C < R := Nat.div_lt_of_lt_mul (by rw [Nat.mul_comm]; exact hi)
    generalize i / C = Y at hp hy
    generalize i % C = X at hp hx
    obtain ⟨p1, p2, p3⟩ := lnum_range (rows := R) (cols := C) (y := Y) (x := X) hn (by omega) (by omega) (by omega) (by omega) (by omega) (by omega) (by omega) (by omega)
    refine ⟨e, by omega, ?_⟩
    rw [hN]; unfold countL; omega
  · rw [if_neg e] at h; exact absurd rfl h
theorem countL_size {R C : Nat} {dx dy : Int} (hn : Near dx dy) (hR : 1 ≤ R ∧ R ≤ 5) (hC : 1 ≤ C ∧ C ≤ 5) : ∃ N : Nat, (N : Int) = countL R C dx dy ∧ N ≤ 41 := by
  obtain ⟨p1, p2, -⟩ := lnum_range (rows := R) (cols := C) (y := (R : Int) - 1) (x := 0) hn (by omega) (by omega) (by omega) (by omega) (by omega) (by omega) (by omega) (by omega)
  obtain ⟨q1, q2, -⟩ := lnum_range (rows := R) (cols := C) (y := (R : Int) - 1) (x := (C : Int) - 1) hn (by omega) (by omega) (by omega) (by omega) (by omega) (by omega) (by omega) (by omega)
  refine ⟨(countL R C dx dy).toNat, ?_, ?_⟩ <;> unfold countL <;> omega
theorem countL_nat {R C : Nat} {f : Nat → Nat → Int} {dx dy : Int} (hn : Near dx dy) (hI : Img R C f) : ∃ N : Nat, (N : Int) = countL R C dx dy ∧ N ≤ 41 := countL_size hn ⟨hI.r1, hI.r2⟩ ⟨hI.c1, hI.c2⟩
/-- The sum of the elements on each line. -/
def lineRowE (R C : Nat) (f : Nat → Nat → Int) (dx dy : Int) (N : Nat) : List Int := rowF N fun i => sumF (elL C f (dx, dy) i) (R * C)
theorem line_oneE {R C : Nat} {f : Nat → Nat → Int} {dx dy : Int} (i : Nat) : linesE C f (R * C) ⟨dx, dy, i⟩ [(dx, dy)] = sumF (elL C f (dx, dy) i) (R * C) := by
  simp [linesE, lineE]
theorem lineRow_img {R C : Nat} {f : Nat → Nat → Int} (hI : Img R C f) (dx dy : Int) (N : Nat) : lineRowE R C f dx dy N = lineRow R C f dx dy N := rowF_congr fun i _ => by
  rw [← line_oneE, ← line_one, img_linesE hI]

set_option maxHeartbeats 400000 in
theorem implLineSums_img (v : Value) (m : List (List Int)) (dx dy : Int) (w : World) (hin : InMat w v m) (h : okB m = false) :
    Calls Tryz.prog 43 #[v, .agg #[.int .i64 dx, .int .i64 dy]] w (IntsRes [] w) := by
  have HB := hide ((Below.refl w.heap.size w).alloc (Nat.le_refl _) (.cells #[.int .i64 dx, .int .i64 dy] 58))
  have HI := hide (inMat_below hin HB.out); have H := hide h
  clear hin h
  go_enter Tryz.func43, Tryz.ntmps43
  go_wp2_with ((with_reducible refine (implImageOk_any v m _ HI.out).mono ?_); rw [H.out]; rintro e w' ⟨rfl, rfl⟩)
  go_ret
  exact intsRes_nil HB.out
set_option maxHeartbeats 400000 in
theorem implLineSums_dir (v : Value) (m : List (List Int)) (dx dy : Int) (w : World) (hin : InMat w v m) (h : okB m = true) (hd : dirOk dx dy = false) :
    Calls Tryz.prog 43 #[v, .agg #[.int .i64 dx, .int .i64 dy]] w (IntsRes [] w) := by
  have HB := hide ((Below.refl w.heap.size w).alloc (Nat.le_refl _) (.cells #[.int .i64 dx, .int .i64 dy] 58))
  have HI := hide (inMat_below hin HB.out); have H := hide h; have HD := hide hd
  clear hin h hd
  go_enter Tryz.func43, Tryz.ntmps43
  go_wp2_with (first | ((with_reducible refine (implImageOk_any v m _ HI.out).mono ?_); rw [H.out]; rintro e w' ⟨rfl, rfl⟩) | ((with_reducible refine (implDirectionOk_any dx dy _).mono ?_); rw [HD.out]; rintro e w1 ⟨rfl, hb⟩; have HB1 := hide (HB.out.trans (hb.mono HB.out.size)); clear hb))
  go_ret
  exact intsRes_nil HB1.out

set_option maxRecDepth 100000 in
set_option maxHeartbeats 2000000 in
theorem sumsAlong_any (v : Value) (R C N : Nat) (f : Nat → Nat → Int) (dx dy : Int) (w : World) (hin : InMat w v (mkM R C f)) (hR : 1 ≤ R ∧ R ≤ 5) (hC : 1 ≤ C ∧ C ≤ 5) (hS : Small R C f) (hd : dirOk dx dy = true) (hN : (N : Int) = countL R C dx dy) (hN2 : N ≤ 41) :
    Calls Tryz.prog 88 #[v, .agg #[.int .i64 dx, .int .i64 dy]] w (IntsRes (lineRowE R C f dx dy N) w) := by
  have hb0 := (Below.refl w.heap.size w).alloc (Nat.le_refl _) (.cells #[.int .i64 dx, .int .i64 dy] 58)
  have HM := hide hin
  have HRR := hide hR; have HCC := hide hC; have HSM := hide hS; have HD := hide hd; have HN := hide (near_of hd); have HNN := hide hN
  have HB0 := hide hb0
  have HZ : Hid ((sizeOk R C && dirOk dx dy) = true) := hide (by rw [hd, sizeOk, decide_eq_true (show (1 : Int) ≤ R ∧ (R : Int) ≤ 5 by omega), decide_eq_true (show (1 : Int) ≤ C ∧ (C : Int) ≤ 5 by omega)]; rfl)
  obtain ⟨g, o, cap, rfl, hg, hrow⟩ := inMat_img hin (by omega) (by omega)
  obtain ⟨g', o', c', hcr, hg', -⟩ := hrow 0 (by omega)
  have hR0 : 0 < R := by omega
  rw [Nat.add_zero] at hcr
  have HCR := hide hcr
  have HG0 := hide (show DirAt (w.alloc (.cells #[.int .i64 dx, .int .i64 dy] 58)) w.heap.size dx dy from heap_alloc_new w _)
  clear hin hd hN hrow hb0 hcr hS hR hC
  go_enter Tryz.func88, Tryz.ntmps88
  go_upto_region 1 with fail
  obtain ⟨fs, hfs⟩ : ∃ fs : List FactP, fs = [(isV (.slice (some ⟨g, o, none⟩) R cap)), (isV (.agg #[.int .i64 dx, .int .i64 dy])), (fun u w2 => InDirs w2 u [(dx, dy)]), (fun u w2 => ∃ b, u = .map (some b) ∧ LM w2 b 50 (thereK (fun k => linesC C (nzF f) (R * C) k [(dx, dy)])) (fun k => linesE C f (R * C) k [(dx, dy)])), (isV (.slice (some ⟨g, o, none⟩) R cap)), (isV (.int .i64 R)), (isV (.slice (some ⟨g, o, none⟩) R cap)), (isV (.pointer (some ⟨g, o, none⟩))), (isV (.slice (some ⟨g', o', none⟩) C c')), (isV (.int .i64 C)), (isV (.agg #[.int .i64 dx, .int .i64 dy])), (isV (.int .i64 N)), (fun u w2 => w2.ownsRow w.heap.size 3 1 u N (ints (rowF N fun i => linesE C f (R * C) ⟨dx, dy, i⟩ [(dx, dy)])))] := ⟨_, rfl⟩
  have hst : ∀ f ∈ fs, StableP f := by
    rw [hfs]; intro f hf
    simp only [List.mem_cons, List.not_mem_nil, or_false] at hf
    rcases hf with rfl | rfl | rfl | rfl | rfl | rfl | rfl | rfl | rfl | rfl | rfl | rfl | rfl <;> first | exact stable_v _ | exact fun u w2 w3 hb h => inDirs_below h hb | exact fun u w2 w3 hb h => ⟨h.choose, h.choose_spec.1, lm_below h.choose_spec.2 hb⟩ | exact fun u w2 w3 hb h => own_below h hb
  subst hfs
  refine wp_region_tail (S := fun w2 => DirAt w2 w.heap.size dx dy ∧ Below w.heap.size w w2) [(isV (.slice (some ⟨g, o, none⟩) R cap)), (isV (.agg #[.int .i64 dx, .int .i64 dy])), (fun u w2 => InDirs w2 u [(dx, dy)]), (fun u w2 => ∃ b, u = .map (some b) ∧ LM w2 b 50 (thereK (fun k => linesC C (nzF f) (R * C) k [(dx, dy)])) (fun k => linesE C f (R * C) k [(dx, dy)])), (isV (.slice (some ⟨g, o, none⟩) R cap)), (isV (.int .i64 R)), (isV (.slice (some ⟨g, o, none⟩) R cap)), (isV (.pointer (some ⟨g, o, none⟩))), (isV (.slice (some ⟨g', o', none⟩) C c')), (isV (.int .i64 C)), (isV (.agg #[.int .i64 dx, .int .i64 dy])), (isV (.int .i64 N)), (fun u w2 => w2.ownsRow w.heap.size 3 1 u N (ints (rowF N fun i => linesE C f (R * C) ⟨dx, dy, i⟩ [(dx, dy)])))] [(0, .slice (some ⟨g, o, none⟩) R cap), (3, .pointer (some ⟨w.heap.size, 0, none⟩))] _ _ 13 (by kernel_rfl) rfl rfl (by kernel_rfl) (by kernel_rfl) rfl (by kernel_rfl) ?base ⟨HG0.out, below_drew HB0.out⟩ ?ob rfl ?fin
  case base =>
    intro t v ht
    simp only [List.lookup_cons, List.lookup_nil] at ht
    repeat' split at ht
    all_goals first | (cases ht; done) | (obtain rfl := Option.some.inj ht; rename_i hh; obtain rfl := eq_of_beq hh; rfl)
  case ob =>
    exact ⟨obt_move (.slice (some ⟨g, o, none⟩) R cap) rfl rfl rfl (srt_b 0 rfl),
      obt_one (.agg #[.int .i64 dx, .int .i64 dy]) rfl rfl (srt_b 3 rfl) (fun ρ w2 hS hx => exec_loadDir rfl hx hS.1),
      obt_make hst rfl (fun a w2 hS hs => by
      have hh : Below w2.heap.size w2 (w2.alloc (.cells #[.int .i64 dx, .int .i64 dy] 58)) := (Below.refl _ _).alloc (Nat.le_refl _) _
      exact ⟨_, _, exec_dirs1 rfl (hs _ _ (srt_j 1 rfl (by kernel_rfl) rfl)), ⟨dirAt_below hS.1 hh, hS.2.trans (hh.mono hS.2.size)⟩, hh, inDirs1 w2 dx dy⟩),
      obt_call_r hst 2 rfl Tryz.func50 (by kernel_rfl) (by kernel_rfl) rfl rfl (by kernel_rfl) (srt_j 0 rfl (by kernel_rfl) rfl) (fun v w2 hS hf => (lineMapOf_el _ v R C f [(dx, dy)] w2 (inMat_below HM.out hS.2) HRR.out HCC.out HSM.out hf (by simp) (fun d hd => by simp only [List.mem_singleton] at hd; subst hd; exact HN.out)).mono fun e w3 ⟨b, he, _, hl, hh⟩ => ⟨_, he, ⟨dirAt_below hS.1 hh, hS.2.trans (hh.mono hS.2.size)⟩, hh, b, rfl, hl⟩),
      obt_move (.slice (some ⟨g, o, none⟩) R cap) rfl rfl rfl (srt_b 0 rfl),
      obt_one (.int .i64 R) rfl rfl (srt_j 4 rfl (by kernel_rfl) rfl) (fun ρ w2 hS hx => by go_simp),
      obt_move (.slice (some ⟨g, o, none⟩) R cap) rfl rfl rfl (srt_b 0 rfl),
      obt_two (.pointer (some ⟨g, o, none⟩)) rfl rfl (srt_j 6 rfl (by kernel_rfl) rfl) (srt_c (v := .int .i64 0)) (fun ρ w2 hS hx hy => by go_simp),
      obt_one (.slice (some ⟨g', o', none⟩) C c') rfl rfl (srt_j 7 rfl (by kernel_rfl) rfl) (fun ρ w2 hS hx => by have hc := below_cell hS.2 hg HCR.out; go_simp),
      obt_one (.int .i64 C) rfl rfl (srt_j 8 rfl (by kernel_rfl) rfl) (fun ρ w2 hS hx => by go_simp),
      obt_one (.agg #[.int .i64 dx, .int .i64 dy]) rfl rfl (srt_b 3 rfl) (fun ρ w2 hS hx => exec_loadDir rfl hx hS.1),
      obt_call hst [.int .i64 R, .int .i64 C, .agg #[.int .i64 dx, .int .i64 dy]] rfl Tryz.func122 (by kernel_rfl) (by kernel_rfl) rfl ⟨(srt_j 5 rfl (by kernel_rfl) rfl), (srt_j 9 rfl (by kernel_rfl) rfl), (srt_j 10 rfl (by kernel_rfl) rfl), trivial⟩ (fun w2 hS => (implCountLines_any R C dx dy w2).mono fun e w3 ⟨he, hh⟩ => ⟨_, he, ⟨dirAt_below hS.1 hh, hS.2.trans (hh.mono hS.2.size)⟩, hh, by rw [if_pos HZ.out, ← HNN.out]; rfl⟩),
      obt_call_l hst 3 rfl Tryz.func121 (by kernel_rfl) (by kernel_rfl) rfl rfl (by kernel_rfl) (srt_j 11 rfl (by kernel_rfl) rfl) (fun v w2 hS hf => by
      obtain ⟨b, rfl, hl⟩ := hf
      exact (list_any b 50 N _ _ dx dy w2 hl (fun k _ hk => line_there HN.out HRR.out HCC.out HNN.out k hk) (by omega) (WalkArith.wf_i64 (by have := HN.out.x1; have := HN.out.x2; omega)) (WalkArith.wf_i64 (by have := HN.out.y1; have := HN.out.y2; omega))).mono fun e w3 ⟨u, he, ho, hh⟩ => ⟨_, he, ⟨dirAt_below hS.1 hh, hS.2.trans (hh.mono hS.2.size)⟩, hh, own_base ho hS.2.size⟩),
      trivial⟩
  case fin =>
    intro a' w' h1 h2 h3 hS h4 K hK
    obtain ⟨u, HU⟩ : ∃ u, Hid (a'.eval (.tmp 17) = u) := ⟨_, hide rfl⟩
    have HO := hide (h4 12 17 rfl (by decide))
    refine tail_assign rfl HU.out ?_ K hK
    go_wp2
    refine bodyPost_ret (results_tmp rfl _ _ _) rfl ⟨u, congrArg Ending.returned (set_get (d := 4) (n := 18) h1 (by decide)), ?_, hS.2⟩
    have e : lineRowE R C f dx dy N = rowF N fun i => linesE C f (R * C) ⟨dx, dy, i⟩ [(dx, dy)] := rowF_congr fun i _ => (line_oneE i).symm
    rw [e, rowF_len, ← HU.out]; exact HO.out

set_option maxHeartbeats 1000000 in
theorem implLineSums_yes (v : Value) (R C N : Nat) (f : Nat → Nat → Int) (dx dy : Int) (w : World) (hin : InMat w v (mkM R C f)) (hI : Img R C f) (hd : dirOk dx dy = true) (hN : (N : Int) = countL R C dx dy) (hN2 : N ≤ 41) :
    Calls Tryz.prog 43 #[v, .agg #[.int .i64 dx, .int .i64 dy]] w (IntsRes (lineRow R C f dx dy N) w) := by
  have HB := hide ((Below.refl w.heap.size w).alloc (Nat.le_refl _) (.cells #[.int .i64 dx, .int .i64 dy] 58))
  have HM := hide hin; have HI := hide (inMat_below hin HB.out); have H := hide (img_ok hI); have HD := hide hd
  have HG0 := hide (show DirAt (w.alloc (.cells #[.int .i64 dx, .int .i64 dy] 58)) w.heap.size dx dy from heap_alloc_new w _)
  have HS := hide fun w h => sumsAlong_any v R C N f dx dy w h ⟨hI.r1, hI.r2⟩ ⟨hI.c1, hI.c2⟩ (img_small hI) hd hN hN2
  have HE := hide (lineRow_img hI dx dy N)
  clear hin hI hd hN
  go_enter Tryz.func43, Tryz.ntmps43
  go_wp2_with (first | ((with_reducible refine (implImageOk_any _ _ _ HI.out).mono ?_); rw [H.out]; rintro e w' ⟨rfl, rfl⟩) | ((with_reducible refine (implDirectionOk_any dx dy _).mono ?_); rw [HD.out]; rintro e w1 ⟨rfl, hb⟩; have HB1 := hide (HB.out.trans (hb.mono HB.out.size)); have HG1 := hide (dirAt_below HG0.out hb); clear hb) | (with_reducible refine wpList_loadDir HG1.out rfl _ rfl rfl ?_) | ((with_reducible refine (HS.out _ (inMat_below HM.out HB1.out)).mono ?_); rintro e w2 ⟨u, rfl, ho, hb⟩; have HO := hide ho; have HB2 := hide (HB1.out.trans (hb.mono HB1.out.size)); have hs := HB1.out.size; clear ho hb))
  go_ret
  exact ⟨_, rfl, by rw [← HE.out]; exact own_base HO.out hs, HB2.out⟩
end Go.Proofs.YtcliiefedmiokaaGreat
/-
  Row sums and column sums as lists.
-/
namespace Go.Proofs.YtcliiefedmiokaaGreat
open Go.RowKit

/-- The number of black cells in a row, in a column. -/
def rs (C : Nat) (f : Nat → Nat → Int) (y : Nat) : Nat := cnt (fun x => f y x == 1) C
def cs (R : Nat) (f : Nat → Nat → Int) (x : Nat) : Nat := cnt (fun y => f y x == 1) R
/-- The row sums. -/
def rowsL (R C : Nat) (f : Nat → Nat → Int) : List Int := rowF R fun y => (rs C f y : Nat)
theorem rs_cell {R C : Nat} {f : Nat → Nat → Int} (h : Img R C f) {y x : Nat} (hy : y < R) (hx : x < C) : ((cnt (fun x => f y x == 1) (x + 1) : Nat) : Int) = (cnt (fun x => f y x == 1) x : Nat) + f y x := by
  rcases h.cell y x hy hx with e | e
  · rw [cnt_no (by simp [e]), e]; simp
  · rw [cnt_yes (by simp [e]), e]; simp
end Go.Proofs.YtcliiefedmiokaaGreat
/-
  Numbers of black cells by rows, by columns and by lines.
-/
namespace Go.Proofs.YtcliiefedmiokaaGreat
open Go.RowKit

theorem cnt_add (p : Nat → Bool) (b : Nat) : ∀ C, cnt p (b + C) = cnt p b + cnt (fun x => p (b + x)) C
  | 0 => rfl
  | C + 1 => by
    have := cnt_add p b C
    rw [← Nat.add_assoc, cnt, cnt, this]; omega
theorem cnt_congr {p q : Nat → Bool} : ∀ {N : Nat}, (∀ i, i < N → p i = q i) → cnt p N = cnt q N
  | 0, _ => rfl
  | N + 1, h => by rw [cnt, cnt, cnt_congr fun i hi => h i (by omega), h N (by omega)]
theorem cnt_none {p : Nat → Bool} {N : Nat} (h : ∀ i, i < N → p i = false) : cnt p N = 0 := cnt_skip (k := 0) (Nat.zero_le _) fun i _ hi => h i hi
theorem cnt_only {p : Nat → Bool} {N j : Nat} (hj : j < N) (h : ∀ i, i < N → i ≠ j → p i = false) : cnt p N = if p j = true then 1 else 0 := by
  have h1 : cnt p N = cnt p (j + 1) := cnt_skip (by omega) fun i h1 h2 => h i h2 (by omega)
  have h2 : cnt p j = 0 := cnt_none fun i hi => h i (by omega) (by omega)
  rw [h1, cnt, h2]; omega
theorem lnum_row (C y x : Nat) : lnum 1 0 C y x = y := by simp [lnum, least]
theorem lnum_col (C y x : Nat) (hx : x < C) : lnum 0 1 C y x = (C : Int) - 1 - x := by unfold lnum least; omega
theorem cnt_rows (C : Nat) (f : Nat → Nat → Int) (n : Int) : ∀ Y : Nat, cnt (onL C f (1, 0) n) (C * Y) = if 0 ≤ n ∧ n < Y then rs C f n.toNat else 0
  | 0 => by rw [if_neg (by omega)]; rfl
  | Y + 1 => by
    have h1 : cnt (fun x => onL C f (1, 0) n (C * Y + x)) C = if n = Y then rs C f Y else 0 := by
      by_cases e : n = Y
      · rw [if_pos e]
        refine cnt_congr fun x hx => ?_
        rw [onL_at hx]
        simp only [lnum_row, e]; simp
      · rw [if_neg e]
        refine cnt_none fun x hx => ?_
        rw [onL_at hx]
        simp only [lnum_row]
        have : ((Y : Int) == n) = false := by simp; omega
        rw [this, Bool.and_false]
    rw [Nat.mul_succ, cnt_add, cnt_rows C f n Y, h1]
    by_cases e : n = Y
    · rw [if_pos e, if_neg (by omega), if_pos (by omega), Nat.zero_add]
      congr 1; omega
    · rw [if_neg e, Nat.add_zero]
      by_cases h : 0 ≤ n ∧ n < Y
      · rw [if_pos h, if_pos (by omega)]
      · rw [if_neg h, if_neg (by omega)]
theorem cnt_cols (C : Nat) (f : Nat → Nat → Int) (n : Int) : ∀ Y : Nat, cnt (onL C f (0, 1) n) (C * Y) = if 0 ≤ n ∧ n < C then cs Y f (C - 1 - n.toNat) else 0
  | 0 => by split <;> rfl
  | Y + 1 => by
    rw [Nat.mul_succ, cnt_add, cnt_cols C f n Y]
    by_cases h : 0 ≤ n ∧ n < C
    · rw [if_pos h, if_pos h]
      have hj : C - 1 - n.toNat < C := by omega
      have h1 : cnt (fun x => onL C f (0, 1) n (C * Y + x)) C = if (f Y (C - 1 - n.toNat) == 1) = true then 1 else 0 := by
        rw [cnt_only hj fun x hx hne => ?_]
        · have e : onL C f (0, 1) n (C * Y + (C - 1 - n.toNat)) = (f Y (C - 1 - n.toNat) == 1) := by
            rw [onL_at hj, lnum_col C Y _ hj]
            have : ((C : Int) - 1 - ((C - 1 - n.toNat : Nat) : Int) == n) = true := by simp; omega
            rw [this, Bool.and_true]
          simp only [e]
        · rw [onL_at hx, lnum_col C Y x hx]
          have : ((C : Int) - 1 - (x : Int) == n) = false := by simp; omega
          rw [this, Bool.and_false]
      rw [h1]; rfl
    · rw [if_neg h, if_neg h, Nat.zero_add]
      refine cnt_none fun x hx => ?_
      rw [onL_at hx, lnum_col C Y x hx]
      have : ((C : Int) - 1 - (x : Int) == n) = false := by simp; omega
      rw [this, Bool.and_false]
theorem lineRow_rows (R C : Nat) (f : Nat → Nat → Int) : lineRow R C f 1 0 R = rowsL R C f := rowF_congr fun i hi => by
  rw [Nat.mul_comm R C, cnt_rows, if_pos (by omega)]; rfl
theorem countL_rows (R C : Nat) : countL R C 1 0 = R := by unfold countL lnum least; omega
end Go.Proofs.YtcliiefedmiokaaGreat
/-
  RowSums of the model.
-/
namespace Go.Proofs.YtcliiefedmiokaaGreat
open Go.RowKit

end Go.Proofs.YtcliiefedmiokaaGreat
/-
  RowSums of both.
-/
namespace Go.Proofs.YtcliiefedmiokaaGreat
open Go.RowKit

theorem alongRows_any (w : World) : Calls Tryz.prog 44 #[] w fun e w' => e = .returned (.agg #[.int .i64 1, .int .i64 0]) ∧ Below w.heap.size w w' := by
  go_enter Tryz.func44, Tryz.ntmps44
  go_wp2
  exact bodyPost_ret (v := .agg #[.int .i64 1, .int .i64 0]) (by simp [results, Tryz.results44, go_sem]) rfl ⟨rfl, (Below.refl _ _).alloc (Nat.le_refl _) _⟩
theorem alongCols_any (w : World) : Calls Tryz.prog 51 #[] w fun e w' => e = .returned (.agg #[.int .i64 0, .int .i64 1]) ∧ Below w.heap.size w w' := by
  go_enter Tryz.func51, Tryz.ntmps51
  go_wp2
  exact bodyPost_ret (v := .agg #[.int .i64 0, .int .i64 1]) (by simp [results, Tryz.results51, go_sem]) rfl ⟨rfl, (Below.refl _ _).alloc (Nat.le_refl _) _⟩

theorem implRowSums_no (v : Value) (m : List (List Int)) (w : World) (hin : InMat w v m) (h : okB m = false) :
    Calls Tryz.prog 13 #[v] w (IntsRes [] w) := by
  have HI := hide hin; have H := hide h
  clear hin h
  go_enter Tryz.func13, Tryz.ntmps13
  go_wp2_with fail
  refine (alongRows_any _).mono ?_
  rintro e w1 ⟨rfl, hb⟩
  have HB := hide hb
  clear hb
  go_wp2_with fail
  refine (implLineSums_img v m 1 0 _ (inMat_below HI.out HB.out) H.out).mono ?_
  rintro e w2 ⟨u, rfl, ho, hb⟩
  have HO := hide (own_base ho HB.out.size); have HB2 := hide (HB.out.trans (hb.mono HB.out.size))
  clear ho hb
  go_wp2
  go_ret
  exact ⟨_, rfl, HO.out, HB2.out⟩
theorem implRowSums_yes (v : Value) (R C : Nat) (f : Nat → Nat → Int) (w : World) (hin : InMat w v (mkM R C f)) (hI : Img R C f) :
    Calls Tryz.prog 13 #[v] w (IntsRes (rowsL R C f) w) := by
  have HI := hide hin; have H := hide hI
  rw [← lineRow_rows]
  clear hin hI
  go_enter Tryz.func13, Tryz.ntmps13
  go_wp2_with fail
  refine (alongRows_any _).mono ?_
  rintro e w1 ⟨rfl, hb⟩
  have HB := hide hb
  clear hb
  go_wp2_with fail
  refine (implLineSums_yes v R C R f 1 0 _ (inMat_below HI.out HB.out) H.out (by decide) (countL_rows R C).symm (by have := H.out.r2; omega)).mono ?_
  rintro e w2 ⟨u, rfl, ho, hb⟩
  have HO := hide (own_base ho HB.out.size); have HB2 := hide (HB.out.trans (hb.mono HB.out.size))
  clear ho hb
  go_wp2
  go_ret
  exact ⟨_, rfl, HO.out, HB2.out⟩

end Go.Proofs.YtcliiefedmiokaaGreat
/-
  lineMap.cancel: one map of lines less another one.
-/
namespace Go.Proofs.YtcliiefedmiokaaGreat
open Go.RowKit Go.Maps
open Go.ChangeMaps (setBlock)

theorem grown_drew (w : World) (row : Option Nat) : w.grownBy w.drew row := ⟨rfl, rfl, rfl, Nat.le_refl _, fun _ _ _ => rfl⟩
theorem lr_cnt {w : World} {b r n : Nat} {A : Key → Bool} {F : Key → Int} {left : Key → Bool} {cnt : Nat} (h : LR w b r n A F left cnt) : cnt ≤ n := by
  obtain ⟨D, lf, ⟨es, clock, since, seen, c0, _, _, hs, _, _, _, hc, _⟩, -⟩ := h
  have : (leftOf es seen).size ≤ es.size := Array.size_filter_le
  omega
theorem exec_loadKey {ρ : Operand → Value} {o : Oper} {w : World} {x : Operand} {g : Nat} {k : Key} (ho : o.op = .load 116 x) (hx : ρ x = .pointer (some ⟨g, 0, none⟩)) (hd : w.heap[g]? = some (.cells #[.int .i64 k.x, .int .i64 k.y, .int .i64 k.n] 116 (0, 0))) :
    (execOp ρ o).run Tryz.prog w = .ok (.value (keyV k)) w := by
  unfold execOp keyV
  simp only [ho, hx, Instr.loadAt, Instr.sureAddr, Sem.run_bind, Sem.run_pure, Result.andThen_ok, run_loadVar_row w g _ _ _ _ _ hd Tryz.underlying116 rfl (show (Tryz.prog.info? 116).map (·.size) = some 3 by kernel_rfl)]
theorem wpList_loadKey {ops : Array Oper} {rest : List Oper} {o : Oper} {a : Act} {Q : Exit → Act → World → Prop} {W : World} {g : Nat} {k : Key} (hb : W.heap[g]? = some (.cells #[.int .i64 k.x, .int .i64 k.y, .int .i64 k.n] 116 (0, 0)))
    (hgd : o.guard = none) (x : Operand) (ho : o.op = .load 116 x) (hx : a.eval x = .pointer (some ⟨g, 0, none⟩))
    (h : wpList Tryz.prog ops Q rest (a.put o.dst (keyV k)) W) : wpList Tryz.prog ops Q (o :: rest) a W :=
  wpList_plain hgd fun _ hK => run_value _ (exec_loadKey ho hx hb) (hK _ _ h)

def CancelRes (b1 : Nat) (F1 F2 : Key → Int) (w : World) (e : Ending) (w' : World) : Prop :=
  ∃ nn, e = .returned (.tuple #[]) ∧ nn ≤ 200 ∧ LM w' b1 nn (thereK fun k => F1 k - F2 k) (fun k => F1 k - F2 k) ∧ w.grownBy w' (some b1)
/-- What has been taken away, as long as 'left' are still to come. -/
def lessK (A2 : Key → Bool) (F1 F2 : Key → Int) (left : Key → Bool) (k : Key) : Int := F1 k - if A2 k = true ∧ left k = false then F2 k else 0

set_option maxRecDepth 100000 in
set_option maxHeartbeats 4000000 in
theorem cancel_any (b1 b2 n1 n2 : Nat) (A2 : Key → Bool) (F1 F2 : Key → Int) (w : World) (h1 : LM w b1 n1 (thereK F1) F1) (h2 : LM w b2 n2 A2 F2) (hne : b1 ≠ b2) (hn1 : n1 ≤ 100) (hn2 : n2 ≤ 100) (hr1 : ∀ k, 0 ≤ F1 k ∧ F1 k ≤ 1000) (hr2 : ∀ k, 0 ≤ F2 k ∧ F2 k ≤ 1000) :
    Calls Tryz.prog 52 #[.map (some b1), .map (some b2)] w (CancelRes b1 F1 F2 w) := by
  have H1 := hide h1; have H2 := hide h2; have HR1 := hide hr1; have HR2 := hide hr2
  have hl1 := lm_lt h1; have hl2 := lm_lt h2
  clear h1 h2 hr1 hr2
  go_enter Tryz.func52, Tryz.ntmps52
  go_wp2_with (at_range; refine wpList_rangeLM w rfl _ rfl rfl H2.out ?_; intro w2 cnt hlr hb2 hs2; have HR := hide hlr; have HB := hide hb2; clear hlr hb2)
  obtain ⟨r, hr⟩ : ∃ r, r = w.heap.size := ⟨_, rfl⟩
  have HRR := hide hr
  rw [← hr] at HR hl1 hl2 hs2 ⊢
  clear hr
  go_frame
  go_loopw [4] (fun _ wr => ∃ (left : Key → Bool) (cnt nn : Nat), LR wr b2 r n2 A2 F2 left cnt ∧ LM wr b1 nn (thereK (lessK A2 F1 F2 left)) (lessK A2 F1 F2 left) ∧ nn + cnt ≤ n1 + n2 ∧ (∀ k : Key, left k = true → A2 k = true) ∧ w.grownBy wr (some b1)) (fun _ wr => wr.rangeLeft b2 r)
  case atStart =>
    refine ⟨A2, cnt, n1, HR.out, ?_, by have := lr_cnt HR.out; omega, fun k h => h, grown_of_below HB.out _⟩
    have e : ∀ k, lessK A2 F1 F2 A2 k = F1 k := fun k => by
      unfold lessK; rw [if_neg (fun h => by rw [h.1] at h; cases h.2)]; omega
    exact lm_congr (lm_below H1.out HB.out) (fun k _ => by unfold thereK; rw [e k]) (fun k _ => (e k).symm)
  case round =>
    obtain ⟨left, cnt', nn, hlr, hlm, hnn, hle, hg⟩ := hrel
    have HL := hide hlr; have HM := hide hlm; have HE := hide hle; have HG := hide hg
    have hrw := lr_lt hlr
    have hb1w := lm_lt hlm
    have hb2w := lm_lt (lr_owns hlr)
    clear hlr hlm hle hg
    go_wp2_with (at_next; refine wpList_nextLR wr rfl _ rfl rfl HL.out ?_ ?_)
    · intro hd
      have HD := hide hd
      clear hd
      go_wp2
      have e : ∀ k : Key, k.wf → lessK A2 F1 F2 left k = F1 k - F2 k := fun k hk => by
        unfold lessK
        rw [HD.out k hk]
        cases h : A2 k with
        | true => simp
        | false => rw [if_neg (fun h => by cases h.1), lm_absent H2.out hk h]
      exact bodyPost_end (v := .tuple #[]) (by simp [results, Tryz.results52]) rfl ⟨nn, rfl, by omega, lm_congr HM.out (fun k hk => by unfold thereK; rw [e k hk]) e, HG.out⟩
    · intro k w3 cnt3 hkw hlk hlr3 hlt hg3 hs3 hen
      have HLR3 := hide hlr3; have HKW := hide hkw; have HLK := hide hlk
      have hg3' := hg3
      obtain ⟨c, hc⟩ : ∃ c, c = F2 k := ⟨_, rfl⟩
      have HC := hide hc
      rw [← hc] at hen ⊢
      have hcb := HR2.out k
      rw [← hc] at hcb
      obtain ⟨hc0, hc1⟩ := hcb
      obtain ⟨kx, ky, kn⟩ := k
      unfold keyV at hen ⊢
      simp only at hen ⊢
      clear hlr3 hkw hlk hc hg3
      go_upto_region 3 with fail
      obtain ⟨k, hk⟩ : ∃ k : Key, k = ⟨kx, ky, kn⟩ := ⟨_, rfl⟩
      have HKE := hide hk
      rw [← hk] at HLR3 HKW HLK HC
      have HX : Hid (k.x = kx ∧ k.y = ky ∧ k.n = kn) := hide (by rw [hk]; exact ⟨rfl, rfl, rfl⟩)
      clear hk
      obtain ⟨G, hG⟩ : ∃ G, G = wr.heap.size := ⟨_, rfl⟩
      have hgen : ∃ w4, w4 = w3.alloc (.cells #[.int .i64 kx, .int .i64 ky, .int .i64 kn] 116) := ⟨_, rfl⟩
      obtain ⟨w4, hw4⟩ := hgen
      have hal : Below w3.heap.size w3 w4 := by rw [hw4]; exact (Below.refl _ _).alloc (Nat.le_refl _) _
      have hkc : w4.heap[G]? = some (.cells #[.int .i64 k.x, .int .i64 k.y, .int .i64 k.n] 116 (0, 0)) := by
        rw [hw4, hG, ← hs3, HX.out.1, HX.out.2.1, HX.out.2.2]; exact heap_alloc_new w3 _
      have HKC := hide hkc
      have HL4 := hide (lr_below HLR3.out hal)
      have HM4 := hide (lm_below (lm_grown HM.out hg3' (by simp; omega)) hal)
      have HG4 := hide (World.grownBy.andThen (World.grownBy.andThen HG.out hg3' (fun j hj => by cases hj; left; rw [HRR.out]; exact Nat.le_refl _)) (grown_of_below hal none) (fun j hj => by cases hj))
      rw [← hw4, ← hG]
      have hb1G : b1 < G := by rw [hG]; exact hb1w
      have hrG : r < G := by rw [hG]; exact hrw
      clear hal hkc hg3' hw4 hs3
      obtain ⟨E0, E1, st, hE0, hE⟩ := lm_ent HM4.out (by unfold maxLen; omega) HKW.out
      have HEn := hide hE; have HE0 := hide hE0
      clear hE hE0
      have hf : lessK A2 F1 F2 left k = F1 k := by
        unfold lessK; rw [if_neg (fun h => by rw [HLK.out] at h; cases h.2)]; omega
      have hfb := HR1.out k
      rw [← hf] at hfb
      obtain ⟨f, hff⟩ : ∃ f, f = lessK A2 F1 F2 left k := ⟨_, rfl⟩
      have HF := hide hff
      have HF1 : Hid (f = F1 k) := hide (by rw [hff, hf])
      rw [← hff] at hfb
      obtain ⟨hf0, hf1⟩ := hfb
      clear hff hf
      have l1 : IntKind.i64.wrap (f - c) = f - c := IntWalk.i64_in _ (by omega)
      obtain ⟨fs, hfs⟩ : ∃ fs : List FactP, fs = [isV (.map (some b1)), isV (keyV k), isV (.int .i64 f), isV (.int .i64 c), isV (.int .i64 (f - c)), isB (.tuple #[.int .i64 f, .int .i64 st]) b1 E1, isV (.int .i64 st)] := ⟨_, rfl⟩
      have hst : ∀ f ∈ fs, StableP f := by
        rw [hfs]; intro f hf
        simp only [List.mem_cons, List.not_mem_nil, or_false] at hf
        rcases hf with rfl | rfl | rfl | rfl | rfl | rfl | rfl <;> first | exact stable_v _ | exact stable_b _ _ _
      have hout : ∀ f ∈ fs, OutP b1 E1 f := by
        rw [hfs]; intro f hf
        simp only [List.mem_cons, List.not_mem_nil, or_false] at hf
        rcases hf with rfl | rfl | rfl | rfl | rfl | rfl | rfl <;> first | exact out_v _ _ _ | exact out_b _ _ _
      subst hfs
      refine wp_region_tail (S := fun w5 => w5.heap[G]? = some (.cells #[.int .i64 k.x, .int .i64 k.y, .int .i64 k.n] 116 (0, 0)) ∧ w4.grownBy w5 (some b1) ∧ (w5.heap[b1]? = some E0 ∨ w5.heap[b1]? = some E1)) [isV (.map (some b1)), isV (keyV k), isV (.int .i64 f), isV (.int .i64 c), isV (.int .i64 (f - c)), isB (.tuple #[.int .i64 f, .int .i64 st]) b1 E1, isV (.int .i64 st)] [(0, .map (some b1)), (4, .pointer (some ⟨G, 0, none⟩)), (5, .int .i64 c)] _ _ 7 (by kernel_rfl) rfl rfl (by kernel_rfl) (by kernel_rfl) rfl (by kernel_rfl) ?base ⟨HKC.out, grown_drew _ _, .inl HE0.out⟩ ?ob rfl ?fin
      case base =>
        intro t v ht
        simp only [List.lookup_cons, List.lookup_nil] at ht
        repeat' split at ht
        all_goals first | (cases ht; done) | (obtain rfl := Option.some.inj ht; rename_i hh; obtain rfl := eq_of_beq hh; rfl)
      case ob =>
        exact ⟨obt_move (.map (some b1)) rfl rfl rfl (srt_b 0 rfl),
          obt_one (keyV k) rfl rfl (srt_b 4 rfl) (fun ρ w2 hS hx => exec_loadKey rfl hx hS.1),
          obt_two (.int .i64 f) rfl rfl (srt_j 0 rfl (by kernel_rfl) rfl) (srt_j 1 rfl (by kernel_rfl) rfl) (fun ρ w2 hS hx hy => exec_lookupK rfl hx hy (by rw [HF.out]; exact HEn.out.look w2 hS.2.2)),
          obt_move (.int .i64 c) rfl rfl rfl (srt_b 5 rfl),
          obt_two (.int .i64 (f - c)) rfl rfl (srt_j 2 rfl (by kernel_rfl) rfl) (srt_j 3 rfl (by kernel_rfl) rfl) (fun ρ w2 hS hx hy => by go_simp),
          obt_entry (by have := HEn.out; exact this) rfl (by rw [HF.out]; rfl) rfl (srt_j 0 rfl (by kernel_rfl) rfl) (srt_j 1 rfl (by kernel_rfl) rfl) hout (fun w2 hS => hS.2.2) (fun w2 hS => ⟨(sb_other w2 E1 (by omega)).trans hS.1, grown_trans hS.2.1 (sb_grown w2 _ _), .inr (hS.2.2.elim sb_same sb_same)⟩),
          obt_stamp 5 rfl rfl rfl rfl (by kernel_rfl) rfl,
          trivial⟩
      case fin =>
        intro a' w' h1 h2 h3 hS h4 K hK
        have v13 : a'.tmps.getD 13 undef = .map (some b1) := h4 0 13 rfl (by decide)
        have v19 : a'.tmps.getD 19 undef = .int .i64 st := h4 6 19 rfl (by decide)
        have v17 : a'.tmps.getD 17 undef = .int .i64 (f - c) := h4 4 17 rfl (by decide)
        have hb1' : w'.heap[b1]? = some E1 := (h4 5 18 rfl (by decide)).2
        obtain ⟨E', hrun, hlm'⟩ := HEn.out.store w' (f - c) (WalkArith.wf_i64 (by omega)) hb1'
        refine run_skip (w' := setBlock w' b1 E') (exec_storeK rfl v13 v19 v17 hrun) (hK _ _ ?_)
        have HLE : Hid (∀ z : Key, lessK A2 F1 F2 (fun z => left z && !decide (z = k)) z = setK (lessK A2 F1 F2 left) k (f - c) z) := hide fun z => by
          unfold setK
          by_cases e : z = k
          · subst e
            rw [if_pos rfl]
            unfold lessK
            rw [if_pos ⟨HE.out z HLK.out, by simp⟩, HF1.out, HC.out]
          · rw [if_neg e]
            unfold lessK
            simp only [decide_eq_false e, Bool.not_false, Bool.and_true]
        have HEL : Hid (∀ z : Key, (left z && !decide (z = k)) = true → A2 z = true) := hide fun z hz => by rw [Bool.and_eq_true] at hz; exact HE.out z hz.1
        have HFK : Hid (setK (lessK A2 F1 F2 left) k (f - c) k = f - c) := hide (by unfold setK; rw [if_pos rfl])
        have HQ1 := hide hlm'
        have HQ2 : Hid ((setBlock w' b1 E').heap[G]? = some (.cells #[.int .i64 k.x, .int .i64 k.y, .int .i64 k.n] 116 (0, 0))) := hide ((sb_other w' E' (by omega)).trans hS.1)
        have hgg := grown_trans hS.2.1 (sb_grown w' b1 E')
        have HQ3 := hide (lr_grown HL4.out hgg (by simp; omega) (by simp; omega))
        have HQ4 := hide (grown_trans HG4.out hgg)
        have ha : a' = ⟨List.toArray [.map (some b1), .map (some b2), undef, undef, .pointer (some ⟨G, 0, none⟩), .int .i64 c, .map (some b2), .pointer (some ⟨r, 0, none⟩), .tuple #[.bool true, .agg #[.int .i64 kx, .int .i64 ky, .int .i64 kn], .int .i64 c], .bool true, .tuple #[.agg #[.int .i64 kx, .int .i64 ky, .int .i64 kn], .int .i64 c], .agg #[.int .i64 kx, .int .i64 ky, .int .i64 kn], .int .i64 c, a'.tmps.getD 13 undef, a'.tmps.getD 14 undef, a'.tmps.getD 15 undef, a'.tmps.getD 16 undef, a'.tmps.getD 17 undef, a'.tmps.getD 18 undef, a'.tmps.getD 19 undef, u20, u21, u22, u23, u24, u25], []⟩ := frame_eq _ h1 h2 ⟨(h3 0 (by kernel_rfl)), (h3 1 (by kernel_rfl)), (h3 2 (by kernel_rfl)), (h3 3 (by kernel_rfl)), (h3 4 (by kernel_rfl)), (h3 5 (by kernel_rfl)), (h3 6 (by kernel_rfl)), (h3 7 (by kernel_rfl)), (h3 8 (by kernel_rfl)), (h3 9 (by kernel_rfl)), (h3 10 (by kernel_rfl)), (h3 11 (by kernel_rfl)), (h3 12 (by kernel_rfl)), rfl, rfl, rfl, rfl, rfl, rfl, rfl, (h3 20 (by kernel_rfl)), (h3 21 (by kernel_rfl)), (h3 22 (by kernel_rfl)), (h3 23 (by kernel_rfl)), (h3 24 (by kernel_rfl)), (h3 25 (by kernel_rfl)), trivial⟩
        have hp : a'.put none undef = a' := rfl
        clear hrun hlm' hb1' v13 v19 v17 h1 h2 h3 h4 hS hst hout hgg
        refine (congrArg (fun q => Exit.then _ (Exit.inBlock 1 _) Exit.normal q (setBlock w' b1 E')) (hp.trans ha)).mpr ?_
        generalize a'.tmps.getD 13 undef = q13
        generalize a'.tmps.getD 14 undef = q14
        generalize a'.tmps.getD 15 undef = q15
        generalize a'.tmps.getD 16 undef = q16
        generalize a'.tmps.getD 17 undef = q17
        generalize a'.tmps.getD 18 undef = q18
        generalize a'.tmps.getD 19 undef = q19
        generalize setBlock w' b1 E' = w6 at HQ1 HQ2 HQ3 HQ4 ⊢
        clear hp ha l1 hG
        by_cases h0 : f - c = 0
        · have HZ := hide h0
          have HFK := hide (HFK.out.trans h0)
          clear h0
          go_wp2_with (first | (with_reducible refine wpList_loadKey HQ2.out rfl _ rfl rfl ?_) | ((with_reducible refine wpList_lookupLM w6 rfl _ _ rfl rfl rfl HQ1.out HKW.out ?_); rw [HFK.out]) | (at_delete; refine wpList_deleteLM w6 rfl _ _ rfl rfl rfl HQ1.out HKW.out ?_; intro w7 hd1 hd2 hd3; have HD1 := hide hd1; have HD2 := hide hd2; clear hd1 hd2 hd3))
        
          have HR7 := hide (lr_grown HQ3.out HD2.out (by simp; omega) (by simp; omega))
          have HG7 := hide (grown_trans HQ4.out HD2.out)
          have HM7 : Hid (LM w7 b1 (nn + 1) (thereK (lessK A2 F1 F2 (fun z => left z && !decide (z = k)))) (lessK A2 F1 F2 (fun z => left z && !decide (z = k)))) := hide (lm_congr HD1.out (fun z _ => by
            unfold thereK
            rw [HLE.out z]
            unfold setK
            by_cases e : z = k
            · simp only [if_pos e, HZ.out]; rfl
            · simp only [if_neg e]) (fun z _ => by
            rw [HLE.out z]
            unfold setK
            by_cases e : z = k
            · simp only [if_pos e, HZ.out]
            · simp only [if_neg e]))
          go_frame
          go_roundw
          case rel => exact ⟨_, cnt3, nn + 1, HR7.out, HM7.out, by omega, HEL.out, HG7.out⟩
          case measure => rw [lr_left HR7.out, lr_left HL.out]; exact hlt
        · have HZ := hide h0
          have hz : (f - c == 0) = false := by simp [h0]
          clear h0
          go_wp2_with (first | (with_reducible refine wpList_loadKey HQ2.out rfl _ rfl rfl ?_) | ((with_reducible refine wpList_lookupLM w6 rfl _ _ rfl rfl rfl HQ1.out HKW.out ?_); rw [HFK.out]))
          have HM7 : Hid (LM w6 b1 (nn + 1) (thereK (lessK A2 F1 F2 (fun z => left z && !decide (z = k)))) (lessK A2 F1 F2 (fun z => left z && !decide (z = k)))) := hide (lm_congr HQ1.out (fun z _ => by
            unfold thereK
            rw [HLE.out z]
            unfold setK
            by_cases e : z = k
            · rw [if_pos e, if_pos e]; exact (decide_eq_true HZ.out).symm
            · rw [if_neg e, if_neg e]) (fun z _ => (HLE.out z).symm))
          go_roundw
          case rel => exact ⟨_, cnt3, nn + 1, HQ3.out, HM7.out, by omega, HEL.out, HQ4.out⟩
          case measure => rw [lr_left HQ3.out, lr_left HL.out]; exact hlt
end Go.Proofs.YtcliiefedmiokaaGreat
/-
  Any two images with the same sums are joined by switches: twice as many as there are differences, at most; and four times as many at least.
-/
namespace Go.Proofs.YtcliiefedmiokaaGreat

theorem cnt_upd {p q : Nat → Bool} {j : Nat} : ∀ {N : Nat}, j < N → (∀ i, i < N → i ≠ j → p i = q i) → cnt p N + (if q j = true then 1 else 0) = cnt q N + (if p j = true then 1 else 0)
  | 0, h, _ => absurd h (Nat.not_lt_zero _)
  | N + 1, h, e => by
    by_cases hj : j = N
    · subst hj
      have : cnt p j = cnt q j := cnt_congr fun i hi => e i (by omega) (by omega)
      simp only [cnt, this]; omega
    · have h1 := cnt_upd (p := p) (q := q) (N := N) (by omega) fun i hi hne => e i (by omega) hne
      have h2 := e N (by omega) (fun h => hj h.symm)
      simp only [cnt, h2]; omega
theorem cnt_mono {p q : Nat → Bool} : ∀ {N : Nat}, (∀ i, i < N → q i = true → p i = true) → cnt q N ≤ cnt p N
  | 0, _ => Nat.le_refl _
  | N + 1, h => by
    have h1 := cnt_mono (p := p) (q := q) (N := N) fun i hi => h i (by omega)
    have h2 := h N (by omega)
    simp only [cnt]
    cases hq : q N <;> cases hp : p N <;> simp_all <;> omega
theorem cnt_less {p q : Nat → Bool} {j : Nat} : ∀ {N : Nat}, j < N → (∀ i, i < N → q i = true → p i = true) → p j = true → q j = false → cnt q N < cnt p N
  | 0, h, _, _, _ => absurd h (Nat.not_lt_zero _)
  | N + 1, h, e, hp, hq => by
    by_cases hj : j = N
    · subst hj
      have := cnt_mono (p := p) (q := q) (N := j) fun i hi => e i (by omega)
      simp only [cnt, hp, hq]; simp; omega
    · have h1 := cnt_less (p := p) (q := q) (N := N) (by omega) (fun i hi => e i (by omega)) hp hq
      have h2 := e N (by omega)
      simp only [cnt]
      cases hq' : q N <;> cases hp' : p N <;> simp_all <;> omega
theorem cnt_other {p q : Nat → Bool} {N x : Nat} (h : cnt p N = cnt q N) (hx : x < N) (hp : p x = true) (hq : q x = false) : ∃ y, y < N ∧ p y = false ∧ q y = true := by
  refine Classical.byContradiction fun hn => ?_
  have := cnt_less (p := p) (q := q) hx (fun i hi hqi => by
    cases hpi : p i with
    | true => rfl
    | false => exact absurd ⟨i, hi, hpi, hqi⟩ hn) hp hq
  omega
theorem max_row (P : Nat → Nat) : ∀ N, 0 < N → ∃ r, r < N ∧ ∀ i, i < N → P i ≤ P r
  | 0, h => absurd h (Nat.not_lt_zero _)
  | N + 1, _ => by
    by_cases hN : N = 0
    · subst hN; exact ⟨0, by omega, fun i hi => by obtain rfl : i = 0 := by omega
                                                   exact Nat.le_refl _⟩
    · obtain ⟨r, hr, h⟩ := max_row P N (by omega)
      by_cases e : P r ≤ P N
      · exact ⟨N, by omega, fun i hi => by
          by_cases hi' : i = N
          · rw [hi']; exact Nat.le_refl _
          · have := h i (by omega); omega⟩
      · exact ⟨r, by omega, fun i hi => by
          by_cases hi' : i = N
          · rw [hi']; omega
          · exact h i (by omega)⟩

/-- How many cells differ. -/
def diff (R C : Nat) (f g : Nat → Nat → Int) : Nat := cnt (fun i => imgF R C f i != imgF R C g i) 25
theorem diff_symm (R C : Nat) (f g : Nat → Nat → Int) : diff R C f g = diff R C g f := cnt_congr fun i _ => by
  rw [Bool.eq_iff_iff, bne_iff_ne, bne_iff_ne]; exact ⟨Ne.symm, Ne.symm⟩
theorem bne_in {R C : Nat} {f g : Nat → Nat → Int} {y x : Nat} (hy : y < R) (hx : x < C) (hC : C ≤ 5) : (imgF R C f (5 * y + x) != imgF R C g (5 * y + x)) = (f y x != g y x) := by
  rw [imgF_at _ _ _ _ _ (by omega), imgF_at _ _ _ _ _ (by omega), if_pos ⟨hy, hx⟩, if_pos ⟨hy, hx⟩]
def ne1 (a b : Int) : Nat := if a = b then 0 else 1
theorem ne1_if (a b : Int) : (if (a != b) = true then 1 else 0) = ne1 a b := by
  unfold ne1
  by_cases e : a = b
  · subst e; simp
  · simp [e]
theorem flip_in (f : Nat → Nat → Int) (a b c d : Nat) {y x : Nat} (h : (y = a ∨ y = b) ∧ (x = c ∨ x = d)) : flipN f a b c d y x = 1 - f y x := by unfold flipN; rw [if_pos h]
theorem flip_out (f : Nat → Nat → Int) (a b c d : Nat) {y x : Nat} (h : ¬ ((y = a ∨ y = b) ∧ (x = c ∨ x = d))) : flipN f a b c d y x = f y x := by unfold flipN; rw [if_neg h]
/-- The differences behind a switch. -/
theorem diff_flip {R C : Nat} (f g : Nat → Nat → Int) {a b c d : Nat} (hR : R ≤ 5) (hC : C ≤ 5) (hab : a ≠ b) (hcd : c ≠ d) (ha : a < R) (hb : b < R) (hc : c < C) (hd : d < C) :
    diff R C (flipN f a b c d) g + (ne1 (f a c) (g a c) + ne1 (f a d) (g a d) + ne1 (f b c) (g b c) + ne1 (f b d) (g b d)) =
      diff R C f g + (ne1 (1 - f a c) (g a c) + ne1 (1 - f a d) (g a d) + ne1 (1 - f b c) (g b c) + ne1 (1 - f b d) (g b d)) := by
  unfold diff
  obtain ⟨p, hp⟩ : ∃ p : Nat → Bool, p = fun i => imgF R C f i != imgF R C g i := ⟨_, rfl⟩
  obtain ⟨q, hq⟩ : ∃ q : Nat → Bool, q = fun i => imgF R C (flipN f a b c d) i != imgF R C g i := ⟨_, rfl⟩
  have hpv : ∀ y x, y < R → x < C → p (5 * y + x) = (f y x != g y x) := fun y x hy hx => by rw [hp]; exact bne_in hy hx hC
  have hqv : ∀ y x, y < R → x < C → (y = a ∨ y = b) ∧ (x = c ∨ x = d) → q (5 * y + x) = (1 - f y x != g y x) := fun y x hy hx h => by
    rw [hq]
    have := bne_in (f := flipN f a b c d) (g := g) hy hx hC
    rw [flip_in f a b c d h] at this; exact this
  have hsame : ∀ i, i < 25 → i ≠ 5 * a + c → i ≠ 5 * a + d → i ≠ 5 * b + c → i ≠ 5 * b + d → q i = p i := fun i hi h1 h2 h3 h4 => by
    rw [hp, hq]
    have e : imgF R C (flipN f a b c d) i = imgF R C f i := by
      unfold imgF
      by_cases hh : i / 5 < R ∧ i % 5 < C
      · rw [if_pos hh, if_pos hh, flip_out]
        intro hx
        omega
      · rw [if_neg hh, if_neg hh]
    simp only [e]
  have e1 := cnt_upd (p := q) (q := fun i => if i = 5 * a + c then p i else q i) (j := 5 * a + c) (N := 25) (by omega) (fun i _ h => by simp [h])
  have e2 := cnt_upd (p := fun i => if i = 5 * a + c then p i else q i) (q := fun i => if i = 5 * a + c ∨ i = 5 * a + d then p i else q i) (j := 5 * a + d) (N := 25) (by omega) (fun i _ h => by simp [h])
  have e3 := cnt_upd (p := fun i => if i = 5 * a + c ∨ i = 5 * a + d then p i else q i) (q := fun i => if i = 5 * a + c ∨ i = 5 * a + d ∨ i = 5 * b + c then p i else q i) (j := 5 * b + c) (N := 25) (by omega) (fun i _ h => by simp [h])
  have e4 := cnt_upd (p := fun i => if i = 5 * a + c ∨ i = 5 * a + d ∨ i = 5 * b + c then p i else q i) (q := p) (j := 5 * b + d) (N := 25) (by omega) (fun i hi h => by
    by_cases hh : i = 5 * a + c ∨ i = 5 * a + d ∨ i = 5 * b + c
    · simp [hh]
    · simp only [hh, if_false]
      exact hsame i hi (fun e => hh (.inl e)) (fun e => hh (.inr (.inl e))) (fun e => hh (.inr (.inr e))) h)
  have n1 : ¬ (5 * a + d = 5 * a + c) := by omega
  have n2 : ¬ (5 * b + c = 5 * a + c ∨ 5 * b + c = 5 * a + d) := by omega
  have n3 : ¬ (5 * b + d = 5 * a + c ∨ 5 * b + d = 5 * a + d ∨ 5 * b + d = 5 * b + c) := by omega
  simp only [if_true, n1, n2, n3, if_false, or_true] at e1 e2 e3 e4
  rw [hpv a c ha hc, hqv a c ha hc ⟨.inl rfl, .inl rfl⟩, ne1_if, ne1_if] at e1
  rw [hpv a d ha hd, hqv a d ha hd ⟨.inl rfl, .inr rfl⟩, ne1_if, ne1_if] at e2
  rw [hpv b c hb hc, hqv b c hb hc ⟨.inr rfl, .inl rfl⟩, ne1_if, ne1_if] at e3
  rw [hpv b d hb hd, hqv b d hb hd ⟨.inr rfl, .inr rfl⟩, ne1_if, ne1_if] at e4
  rw [← hp, ← hq]
  omega
theorem ne1_le (a b : Int) : ne1 a b ≤ 1 := by unfold ne1; split <;> omega
theorem diff_near {R C : Nat} (f g : Nat → Nat → Int) {a b c d : Nat} (hR : R ≤ 5) (hC : C ≤ 5) (hab : a ≠ b) (hcd : c ≠ d) (ha : a < R) (hb : b < R) (hc : c < C) (hd : d < C) : diff R C f g ≤ diff R C (flipN f a b c d) g + 4 := by
  have := diff_flip f g hR hC hab hcd ha hb hc hd
  have := ne1_le (f a c) (g a c); have := ne1_le (f a d) (g a d); have := ne1_le (f b c) (g b c); have := ne1_le (f b d) (g b d)
  omega

/-- The same sums. -/
def SameF (R C : Nat) (f g : Nat → Nat → Int) : Prop := (∀ y, y < R → rs C f y = rs C g y) ∧ ∀ x, x < C → cs R f x = cs R g x
theorem sameF_symm {R C : Nat} {f g : Nat → Nat → Int} (h : SameF R C f g) : SameF R C g f := ⟨fun y hy => (h.1 y hy).symm, fun x hx => (h.2 x hx).symm⟩
theorem sameF_trans {R C : Nat} {f g k : Nat → Nat → Int} (h : SameF R C f g) (h2 : SameF R C g k) : SameF R C f k := ⟨fun y hy => (h.1 y hy).trans (h2.1 y hy), fun x hx => (h.2 x hx).trans (h2.2 x hx)⟩
theorem cnt_two {p q : Nat → Bool} {N c d : Nat} (hc : c < N) (hd : d < N) (hcd : c ≠ d) (h : ∀ i, i < N → i ≠ c → i ≠ d → p i = q i) (h1 : p c = q d) (h2 : p d = q c) : cnt p N = cnt q N := by
  have e1 := cnt_upd (p := p) (q := fun i => if i = c then q i else p i) (j := c) (N := N) hc (fun i _ h => by simp [h])
  have e2 := cnt_upd (p := fun i => if i = c then q i else p i) (q := q) (j := d) (N := N) hd (fun i hi hne => by
    by_cases hh : i = c
    · simp [hh]
    · simp only [hh, if_false]; exact h i hi hh hne)
  have n : ¬ d = c := fun e => hcd e.symm
  simp only [if_true, n, if_false] at e1 e2
  rw [h1] at e1; rw [h2] at e2
  omega
theorem sameF_flip {R C : Nat} {f : Nat → Nat → Int} {a b c d : Nat} (h : four R C f a b c d = true) (hI : Img R C f) : SameF R C (flipN f a b c d) f := by
  obtain ⟨h1, h2, h3, h4, h5, h6, h7⟩ := four_iff.1 h
  have hv := hI.cell a c (by omega) (by omega)
  constructor
  · intro y hy
    unfold rs
    by_cases hh : y = a ∨ y = b
    · refine cnt_two (c := c) (d := d) (by omega) (by omega) (by omega) (fun i _ n1 n2 => by rw [flip_out f a b c d (by omega)]) ?_ ?_
      · rw [flip_in f a b c d ⟨hh, .inl rfl⟩]
        rcases hh with rfl | rfl
        · rw [h6]
        · rw [h7, h5]; congr 1; omega
      · rw [flip_in f a b c d ⟨hh, .inr rfl⟩]
        rcases hh with rfl | rfl
        · rw [h6]; congr 1; omega
        · rw [h7, h5]
    · exact cnt_congr fun x _ => by rw [flip_out f a b c d (fun e => hh e.1)]
  · intro x hx
    unfold cs
    by_cases hh : x = c ∨ x = d
    · refine cnt_two (c := a) (d := b) (by omega) (by omega) (by omega) (fun i _ n1 n2 => by rw [flip_out f a b c d (by omega)]) ?_ ?_
      · rw [flip_in f a b c d ⟨.inl rfl, hh⟩]
        rcases hh with rfl | rfl
        · rw [h7]
        · rw [h6, h5]; congr 1; omega
      · rw [flip_in f a b c d ⟨.inr rfl, hh⟩]
        rcases hh with rfl | rfl
        · rw [h7]; congr 1; omega
        · rw [h6, h5]
    · exact cnt_congr fun y _ => by rw [flip_out f a b c d (fun e => hh e.2)]
theorem four_any {R C : Nat} {f : Nat → Nat → Int} {r1 r2 c1 c2 : Nat} (hr : r1 ≠ r2) (hc : c1 ≠ c2) (h1 : r1 < R) (h2 : r2 < R) (h3 : c1 < C) (h4 : c2 < C) (e1 : f r2 c2 = f r1 c1) (e2 : f r1 c2 = 1 - f r1 c1) (e3 : f r2 c1 = 1 - f r1 c1) :
    ∃ a b c d, four R C f a b c d = true ∧ ((a = r1 ∧ b = r2) ∨ (a = r2 ∧ b = r1)) ∧ ((c = c1 ∧ d = c2) ∨ (c = c2 ∧ d = c1)) := by
  rcases Nat.lt_or_gt_of_ne hr with a1 | a1 <;> rcases Nat.lt_or_gt_of_ne hc with a2 | a2
  · exact ⟨r1, r2, c1, c2, four_iff.2 ⟨a1, a2, h2, h4, e1, e2, e3⟩, .inl ⟨rfl, rfl⟩, .inl ⟨rfl, rfl⟩⟩
  · exact ⟨r1, r2, c2, c1, four_iff.2 ⟨a1, a2, h2, h3, by omega, by omega, by omega⟩, .inl ⟨rfl, rfl⟩, .inr ⟨rfl, rfl⟩⟩
  · exact ⟨r2, r1, c1, c2, four_iff.2 ⟨a1, a2, h1, h4, by omega, by omega, by omega⟩, .inr ⟨rfl, rfl⟩, .inl ⟨rfl, rfl⟩⟩
  · exact ⟨r2, r1, c2, c1, four_iff.2 ⟨a1, a2, h1, h3, by omega, by omega, by omega⟩, .inr ⟨rfl, rfl⟩, .inr ⟨rfl, rfl⟩⟩
/-- A switch of the one or of the other that makes them nearer. -/
theorem nearer {R C : Nat} {f g : Nat → Nat → Int} (hf : Img R C f) (hg : Img R C g) (hs : SameF R C f g) {y x : Nat} (hy : y < R) (hx : x < C) (hne : f y x ≠ g y x) :
    (∃ a b c d, four R C f a b c d = true ∧ diff R C (flipN f a b c d) g + 2 ≤ diff R C f g) ∨ ∃ a b c d, four R C g a b c d = true ∧ diff R C (flipN g a b c d) f + 2 ≤ diff R C g f := by
  have hR := hf.r2; have hC := hf.c2
  have row : ∀ {f g : Nat → Nat → Int}, Img R C f → Img R C g → SameF R C f g → ∀ {y x : Nat}, y < R → x < C → f y x = 1 → g y x = 0 → ∃ x', x' < C ∧ f y x' = 0 ∧ g y x' = 1 := by
    intro f g hf hg hs y x hy hx h1 h2
    obtain ⟨x', hx', q1, q2⟩ := cnt_other (hs.1 y hy) hx (by simp [h1]) (by simp [h2])
    have := hf.cell y x' hy hx'
    simp at q1 q2
    exact ⟨x', hx', by omega, q2⟩
  have col : ∀ {f g : Nat → Nat → Int}, Img R C f → Img R C g → SameF R C f g → ∀ {y x : Nat}, y < R → x < C → f y x = 1 → g y x = 0 → ∃ y', y' < R ∧ f y' x = 0 ∧ g y' x = 1 := by
    intro f g hf hg hs y x hy hx h1 h2
    obtain ⟨y', hy', q1, q2⟩ := cnt_other (hs.2 x hx) hy (by simp [h1]) (by simp [h2])
    have := hf.cell y' x hy' hx
    simp at q1 q2
    exact ⟨y', hy', by omega, q2⟩
  obtain ⟨P, hP⟩ : ∃ P : Nat → Nat, ∀ r, P r = cnt (fun x => f r x == 1 && g r x == 0) C := ⟨_, fun _ => rfl⟩
  have hpos : ∃ x, x < C ∧ f y x = 1 ∧ g y x = 0 := by
    rcases hf.cell y x hy hx with h1 | h1
    · have h2 : g y x = 1 := by have := hg.cell y x hy hx; omega
      obtain ⟨x', hx', q1, q2⟩ := row hg hf (sameF_symm hs) hy hx h2 h1
      exact ⟨x', hx', q2, q1⟩
    · exact ⟨x, hx, h1, by have := hg.cell y x hy hx; omega⟩
  obtain ⟨x0, hx0, p1, p2⟩ := hpos
  obtain ⟨r1, hr1, hmax⟩ := max_row P R (by omega)
  have hP1 : 0 < P r1 := by
    have h1 := hmax y hy
    have h2 : 0 < P y := by
      rw [hP]
      have := cnt_less (p := fun x => f y x == 1 && g y x == 0) (q := fun _ => false) (N := C) hx0 (fun _ _ h => by cases h) (by simp [p1, p2]) rfl
      omega
    omega
  obtain ⟨ca, hca, hq⟩ : ∃ i, i < C ∧ (f r1 i == 1 && g r1 i == 0) = true := by
    refine Classical.byContradiction fun hn => ?_
    have : P r1 = 0 := by
      rw [hP]
      exact cnt_none fun i hi => by
        cases hh : (f r1 i == 1 && g r1 i == 0) with
        | false => rfl
        | true => exact absurd ⟨i, hi, hh⟩ hn
    omega
  simp only [Bool.and_eq_true, beq_iff_eq] at hq
  obtain ⟨c2, hc2, u1, u2⟩ := row hf hg hs hr1 hca hq.1 hq.2
  obtain ⟨r2, hr2, v1, v2⟩ := col hg hf (sameF_symm hs) hr1 hc2 u2 u1
  have hrr : r1 ≠ r2 := fun e => by subst e; omega
  obtain ⟨c1, hc1, w1, w2⟩ : ∃ i, i < C ∧ (f r1 i == 1 && g r1 i == 0) = true ∧ (f r2 i == 1 && g r2 i == 0) = false := by
    refine Classical.byContradiction fun hn => ?_
    have h1 := cnt_less (p := fun x => f r2 x == 1 && g r2 x == 0) (q := fun x => f r1 x == 1 && g r1 x == 0) (N := C) hc2 (fun i hi h => by
      cases hh : (f r2 i == 1 && g r2 i == 0) with
      | true => rfl
      | false => exact absurd ⟨i, hi, h, hh⟩ hn) (by simp [v1, v2]) (by simp [u1])
    have h2 := hmax r2 hr2
    rw [hP, hP] at h2
    omega
  simp only [Bool.and_eq_true, beq_iff_eq] at w1
  obtain ⟨w1, w1'⟩ := w1
  have hcc : c1 ≠ c2 := fun e => by subst e; omega
  have ne_one : ∀ {a b : Int}, a ≠ b → ne1 a b = 1 := fun h => by unfold ne1; rw [if_neg h]
  have ne_zero : ∀ {a b : Int}, a = b → ne1 a b = 0 := fun h => by unfold ne1; rw [if_pos h]
  have hfc := hf.cell r2 c1 hr2 hc1; have hgc := hg.cell r2 c1 hr2 hc1
  rcases hfc with hf0 | hf1
  · left
    obtain ⟨a, b, c, d, h4, hab, hcd⟩ := four_any (f := f) hrr hcc hr1 hr2 hc1 hc2 (by omega) (by omega) (by omega)
    refine ⟨a, b, c, d, h4, ?_⟩
    have k1 : ne1 (f r1 c1) (g r1 c1) = 1 := ne_one (by omega)
    have k2 : ne1 (f r1 c2) (g r1 c2) = 1 := ne_one (by omega)
    have k3 : ne1 (f r2 c2) (g r2 c2) = 1 := ne_one (by omega)
    have l1 : ne1 (1 - f r1 c1) (g r1 c1) = 0 := ne_zero (by omega)
    have l2 : ne1 (1 - f r1 c2) (g r1 c2) = 0 := ne_zero (by omega)
    have l3 : ne1 (1 - f r2 c2) (g r2 c2) = 0 := ne_zero (by omega)
    have l4 := ne1_le (1 - f r2 c1) (g r2 c1)
    have := diff_flip f g (a := a) (b := b) (c := c) (d := d) hR hC (by omega) (by omega) (by omega) (by omega) (by omega) (by omega)
    rcases hab with ⟨rfl, rfl⟩ | ⟨rfl, rfl⟩ <;> rcases hcd with ⟨rfl, rfl⟩ | ⟨rfl, rfl⟩ <;> omega
  · right
    have hg1 : g r2 c1 = 1 := by
      rcases hgc with h | h
      · rw [hf1, h] at w2; simp at w2
      · exact h
    obtain ⟨a, b, c, d, h4, hab, hcd⟩ := four_any (f := g) hrr hcc hr1 hr2 hc1 hc2 (by omega) (by omega) (by omega)
    refine ⟨a, b, c, d, h4, ?_⟩
    have k1 : ne1 (g r1 c1) (f r1 c1) = 1 := ne_one (by omega)
    have k2 : ne1 (g r1 c2) (f r1 c2) = 1 := ne_one (by omega)
    have k3 : ne1 (g r2 c2) (f r2 c2) = 1 := ne_one (by omega)
    have l1 : ne1 (1 - g r1 c1) (f r1 c1) = 0 := ne_zero (by omega)
    have l2 : ne1 (1 - g r1 c2) (f r1 c2) = 0 := ne_zero (by omega)
    have l3 : ne1 (1 - g r2 c2) (f r2 c2) = 0 := ne_zero (by omega)
    have l4 := ne1_le (1 - g r2 c1) (f r2 c1)
    have := diff_flip g f (a := a) (b := b) (c := c) (d := d) hR hC (by omega) (by omega) (by omega) (by omega) (by omega) (by omega)
    rcases hab with ⟨rfl, rfl⟩ | ⟨rfl, rfl⟩ <;> rcases hcd with ⟨rfl, rfl⟩ | ⟨rfl, rfl⟩ <;> omega
theorem swF_of {R C : Nat} {f : Nat → Nat → Int} {a b c d : Nat} (h : four R C f a b c d = true) : swF R C f ⟨a, b, c, d⟩ = true := swF_iff.2 ⟨a, b, c, d, rfl, h⟩
/-- Ryser's theorem, with the number of switches. -/
theorem joined {R C : Nat} : ∀ (n : Nat) (f g : Nat → Nat → Int), diff R C f g ≤ n → Img R C f → Img R C g → SameF R C f g → ∃ p, goM (mkM R C f) p = some (mkM R C g) ∧ 2 * p.length ≤ diff R C f g := by
  intro n
  induction n using Nat.strongRecOn with
  | ind n ih =>
    intro f g hn hf hg hs
    by_cases he : ∀ y x, y < R → x < C → f y x = g y x
    · exact ⟨[], by rw [mkM_congr he]; rfl, by simp⟩
    · obtain ⟨y, x, hy, hx, hne⟩ : ∃ y x, y < R ∧ x < C ∧ f y x ≠ g y x := by
        refine Classical.byContradiction fun hc => he fun y x hy hx => ?_
        exact Classical.byContradiction fun h => hc ⟨y, x, hy, hx, h⟩
      rcases nearer hf hg hs hy hx hne with ⟨a, b, c, d, h4, hd⟩ | ⟨a, b, c, d, h4, hd⟩
      · obtain ⟨p, hp, hl⟩ := ih (n - 2) (by omega) (flipN f a b c d) g (by omega) (flipN_img hf a b c d) hg (sameF_trans (sameF_flip h4 hf) hs)
        refine ⟨⟨a, b, c, d⟩ :: p, ?_, by simp only [List.length_cons]; omega⟩
        simp only [goM]
        rw [swB_mk hf, swF_of h4, flipM_mk hf]
        exact hp
      · have e1 := diff_symm R C f (flipN g a b c d)
        have e2 := diff_symm R C f g
        obtain ⟨p, hp, hl⟩ := ih (n - 2) (by omega) f (flipN g a b c d) (by omega) hf (flipN_img hg a b c d) (sameF_trans hs (sameF_symm (sameF_flip h4 hg)))
        refine ⟨p ++ [⟨a, b, c, d⟩], ?_, by simp only [List.length_append, List.length_singleton]; omega⟩
        have h5 := goM_snoc hp (s := ⟨a, b, c, d⟩) (by rw [swB_mk (flipN_img hg a b c d)]; exact swF_of (four_flip h4))
        rw [flipM_mk (flipN_img hg a b c d)] at h5
        have e3 : flipF (flipN g a b c d) ⟨a, b, c, d⟩ = g := flipN_flip g a b c d
        rw [e3] at h5; exact h5
theorem path_far {R C : Nat} : ∀ (p : List Sw) (f g : Nat → Nat → Int), Img R C f → Img R C g → goM (mkM R C f) p = some (mkM R C g) → diff R C f g ≤ 4 * p.length ∧ SameF R C f g
  | [], f, g, hf, hg, h => by
    have e : mkM R C f = mkM R C g := Option.some.inj h
    have ec : ∀ y x, y < R → x < C → f y x = g y x := fun y x hy hx => by rw [← cell_mk R C f hy hx, e, cell_mk R C g hy hx]
    constructor
    · have : diff R C f g = 0 := cnt_none fun i _ => by
        have : imgF R C f i = imgF R C g i := by
          unfold imgF
          split
          · rename_i hh; exact ec _ _ hh.1 hh.2
          · rfl
        rw [this]; simp
      omega
    · exact ⟨fun y hy => cnt_congr fun x hx => by rw [ec y x hy hx], fun x hx => cnt_congr fun y hy => by rw [ec y x hy hx]⟩
  | s :: p, f, g, hf, hg, h => by
    simp only [goM] at h
    rw [swB_mk hf, flipM_mk hf] at h
    split at h
    · rename_i hs
      obtain ⟨a, b, c, d, rfl, h4⟩ := swF_iff.1 hs
      obtain ⟨k1, k2, k3, k4, -⟩ := four_iff.1 h4
      obtain ⟨h5, h6⟩ := path_far p (flipN f a b c d) g (flipN_img hf a b c d) hg h
      have h7 := diff_near f g hf.r2 hf.c2 (a := a) (b := b) (c := c) (d := d) (by omega) (by omega) (by omega) k3 (by omega) k4
      exact ⟨by simp only [List.length_cons]; omega, sameF_trans (sameF_symm (sameF_flip h4 hf)) h6⟩
    · cases h
end Go.Proofs.YtcliiefedmiokaaGreat
