/-
  LineSums of the program.
-/
import Derived.Test.YteogbddbafkieaaLList
namespace Go.Proofs.Yteogbddbafkieaa
open Go.RowKit Go.Maps

theorem exec_dirs1 {ρ : Operand → Value} {o : Oper} {w : World} {x : Operand} {dx dy : Int} (ho : o.op = .buildSlice 69 1 #[(0, x)]) (hx : ρ x = .agg #[.int .i64 dx, .int .i64 dy]) :
    (execOp ρ o).run Try.prog w = .ok (.value (.slice (some ⟨w.heap.size, 0, none⟩) 1 1)) (w.alloc (.cells #[.int .i64 dx, .int .i64 dy] 34)) := by
  unfold execOp
  simp only [ho]
  go_simp
theorem exec_dirs2 {ρ : Operand → Value} {o : Oper} {w : World} {x y : Operand} {dx dy ex ey : Int} (ho : o.op = .buildSlice 69 2 #[(0, x), (1, y)]) (hx : ρ x = .agg #[.int .i64 dx, .int .i64 dy]) (hy : ρ y = .agg #[.int .i64 ex, .int .i64 ey]) :
    (execOp ρ o).run Try.prog w = .ok (.value (.slice (some ⟨w.heap.size, 0, none⟩) 2 2)) (w.alloc (.cells #[.int .i64 dx, .int .i64 dy, .int .i64 ex, .int .i64 ey] 34)) := by
  unfold execOp
  simp only [ho]
  go_simp
theorem inDirs1 (w : World) (dx dy : Int) : InDirs (w.alloc (.cells #[.int .i64 dx, .int .i64 dy] 34)) (.slice (some ⟨w.heap.size, 0, none⟩) 1 1) [(dx, dy)] := by
  refine ⟨w.heap.size, 1, rfl, by simp, fun i hi => ?_⟩
  have : i = 0 := by simp at hi; omega
  subst this
  exact ⟨by simp [World.cell?_alloc_new], by simp [World.cell?_alloc_new]⟩
theorem inDirs2 (w : World) (dx dy ex ey : Int) : InDirs (w.alloc (.cells #[.int .i64 dx, .int .i64 dy, .int .i64 ex, .int .i64 ey] 34)) (.slice (some ⟨w.heap.size, 0, none⟩) 2 2) [(dx, dy), (ex, ey)] := by
  refine ⟨w.heap.size, 2, rfl, by simp, fun i hi => ?_⟩
  have : i = 0 ∨ i = 1 := by simp at hi; omega
  rcases this with rfl | rfl
  · exact ⟨by simp [World.cell?_alloc_new], by simp [World.cell?_alloc_new]⟩
  · exact ⟨by simp [World.cell?_alloc_new], by simp [World.cell?_alloc_new]⟩

theorem cnt_pos {p : Nat → Bool} {N : Nat} (h : cnt p N ≠ 0) : ∃ i, i < N ∧ p i = true := by
  induction N with
  | zero => exact absurd rfl h
  | succ N ih =>
    cases e : p N with
    | true => exact ⟨N, Nat.lt_succ_self _, e⟩
    | false =>
      rw [cnt_no e] at h
      obtain ⟨i, hi, hp⟩ := ih h
      exact ⟨i, Nat.lt_succ_of_lt hi, hp⟩
/-- The number of black cells on each line. -/
def lineRow (R C : Nat) (f : Nat → Nat → Int) (dx dy : Int) (N : Nat) : List Int := rowF N fun i => (cnt (onL C f (dx, dy) i) (R * C) : Nat)
theorem line_one {R C : Nat} {f : Nat → Nat → Int} {dx dy : Int} (i : Nat) : linesC C f (R * C) ⟨dx, dy, i⟩ [(dx, dy)] = (cnt (onL C f (dx, dy) i) (R * C) : Nat) := by
  simp [linesC, lineC]
theorem line_there {R C N : Nat} {f : Nat → Nat → Int} {dx dy : Int} (hn : Near dx dy) (hI : Img R C f) (hN : (N : Int) = countL R C dx dy) (k : Key) (h : thereK (fun k => linesC C f (R * C) k [(dx, dy)]) k = true) : (k.x = dx ∧ k.y = dy) ∧ 0 ≤ k.n ∧ k.n < N := by
  simp only [thereK, linesC, Int.add_zero, decide_eq_true_eq] at h
  unfold lineC at h
  by_cases e : k.x = dx ∧ k.y = dy
  · rw [if_pos e] at h
    obtain ⟨i, hi, hp⟩ := cnt_pos (p := onL C f (dx, dy) k.n) (N := R * C) (by omega)
    simp only [onL, Bool.and_eq_true, beq_iff_eq] at hp
    have hc := hI.c1
    have hx := Nat.mod_lt i (show C > 0 by omega)
    have hy : i / C < R := Nat.div_lt_of_lt_mul (by rw [Nat.mul_comm]; exact hi)
    generalize i / C = Y at hp hy
    generalize i % C = X at hp hx
    obtain ⟨p1, p2, p3⟩ := lnum_range (rows := R) (cols := C) (y := Y) (x := X) hn (by have := hI.r1; omega) (by have := hI.r2; omega) (by omega) (by have := hI.c2; omega) (by omega) (by omega) (by omega) (by omega)
    refine ⟨e, by omega, ?_⟩
    rw [hN]; unfold countL; omega
  · rw [if_neg e] at h; exact absurd rfl h
theorem countL_nat {R C : Nat} {f : Nat → Nat → Int} {dx dy : Int} (hn : Near dx dy) (hI : Img R C f) : ∃ N : Nat, (N : Int) = countL R C dx dy ∧ N ≤ 41 := by
  obtain ⟨p1, p2, -⟩ := lnum_range (rows := R) (cols := C) (y := (R : Int) - 1) (x := 0) hn (by have := hI.r1; omega) (by have := hI.r2; omega) (by have := hI.c1; omega) (by have := hI.c2; omega) (by have := hI.r1; omega) (by omega) (by omega) (by have := hI.c1; omega)
  obtain ⟨q1, q2, -⟩ := lnum_range (rows := R) (cols := C) (y := (R : Int) - 1) (x := (C : Int) - 1) hn (by have := hI.r1; omega) (by have := hI.r2; omega) (by have := hI.c1; omega) (by have := hI.c2; omega) (by have := hI.r1; omega) (by omega) (by have := hI.c1; omega) (by omega)
  refine ⟨(countL R C dx dy).toNat, ?_, ?_⟩ <;> unfold countL <;> omega

/-- What returns the integers r, in memory of the call's own. -/
def IntsRes (r : List Int) (w : World) (e : Ending) (w' : World) : Prop := ∃ v, e = .returned v ∧ w'.ownsRow w.heap.size 3 1 v r.length (ints r) ∧ Below w.heap.size w w'
theorem intsRes_nil {w w' : World} (h : Below w.heap.size w w') : IntsRes [] w (.returned (.slice none 0 0)) w' := ⟨_, rfl, World.ownsRow_nil _ _ _ _, h⟩

set_option maxHeartbeats 400000 in
theorem implLineSums_img (v : Value) (m : List (List Int)) (dx dy : Int) (w : World) (hin : InMat w v m) (h : okB m = false) :
    Calls Try.prog 30 #[v, .agg #[.int .i64 dx, .int .i64 dy]] w (IntsRes [] w) := by
  have HB := hide ((Below.refl w.heap.size w).alloc (Nat.le_refl _) (.cells #[.int .i64 dx, .int .i64 dy] 34))
  have HI := hide (inMat_below hin HB.out); have H := hide h
  clear hin h
  go_enter Try.func30, Try.ntmps30
  go_wp2_with ((with_reducible refine (implImageOk_any v m _ HI.out).mono ?_); rw [H.out]; rintro e w' ⟨rfl, rfl⟩)
  go_ret
  exact intsRes_nil HB.out
set_option maxHeartbeats 400000 in
theorem implLineSums_dir (v : Value) (m : List (List Int)) (dx dy : Int) (w : World) (hin : InMat w v m) (h : okB m = true) (hd : dirOk dx dy = false) :
    Calls Try.prog 30 #[v, .agg #[.int .i64 dx, .int .i64 dy]] w (IntsRes [] w) := by
  have HB := hide ((Below.refl w.heap.size w).alloc (Nat.le_refl _) (.cells #[.int .i64 dx, .int .i64 dy] 34))
  have HI := hide (inMat_below hin HB.out); have H := hide h; have HD := hide hd
  clear hin h hd
  go_enter Try.func30, Try.ntmps30
  go_wp2_with (first | ((with_reducible refine (implImageOk_any v m _ HI.out).mono ?_); rw [H.out]; rintro e w' ⟨rfl, rfl⟩) | ((with_reducible refine (implDirectionOk_any dx dy _).mono ?_); rw [HD.out]; rintro e w1 ⟨rfl, hb⟩; have HB1 := hide (HB.out.trans (hb.mono HB.out.size)); clear hb))
  go_ret
  exact intsRes_nil HB1.out

set_option maxRecDepth 100000 in
set_option maxHeartbeats 2000000 in
theorem implLineSums_yes (v : Value) (R C N : Nat) (f : Nat → Nat → Int) (dx dy : Int) (w : World) (hin : InMat w v (mkM R C f)) (hI : Img R C f) (hd : dirOk dx dy = true) (hN : (N : Int) = countL R C dx dy) (hN2 : N ≤ 41) :
    Calls Try.prog 30 #[v, .agg #[.int .i64 dx, .int .i64 dy]] w (IntsRes (lineRow R C f dx dy N) w) := by
  have hb0 := (Below.refl w.heap.size w).alloc (Nat.le_refl _) (.cells #[.int .i64 dx, .int .i64 dy] 34)
  have HM := hide hin
  have HI := hide hI; have HD := hide hd; have HN := hide (near_of hd); have HNN := hide hN
  have HIN0 := hide (inMat_below hin hb0)
  have HB0 := hide hb0
  have HZ : Hid ((sizeOk R C && dirOk dx dy) = true) := hide (by rw [hd, sizeOk, decide_eq_true (show (1 : Int) ≤ R ∧ (R : Int) ≤ 5 by have := hI.r1; have := hI.r2; omega), decide_eq_true (show (1 : Int) ≤ C ∧ (C : Int) ≤ 5 by have := hI.c1; have := hI.c2; omega)]; rfl)
  obtain ⟨g, o, cap, rfl, hg, hrow⟩ := inMat_img hin (by have := hI.r1; omega) (by have := hI.c1; omega)
  obtain ⟨g', o', c', hcr, hg', -⟩ := hrow 0 (by have := hI.r1; omega)
  have hR0 : 0 < R := by have := hI.r1; omega
  rw [Nat.add_zero] at hcr
  have HCR := hide hcr
  have HG0 := hide (show DirAt (w.alloc (.cells #[.int .i64 dx, .int .i64 dy] 34)) w.heap.size dx dy from heap_alloc_new w _)
  clear hin hI hd hN hrow hb0 hcr
  go_enter Try.func30, Try.ntmps30
  go_wp2_with (first | ((with_reducible refine (implImageOk_any _ _ _ HIN0.out).mono ?_); rw [img_ok HI.out]; rintro e w' ⟨rfl, rfl⟩) | ((with_reducible refine (implDirectionOk_any dx dy _).mono ?_); rw [HD.out]; rintro e w1 ⟨rfl, hb⟩; have HB1 := hide (HB0.out.trans (hb.mono HB0.out.size)); have HG1 := hide (dirAt_below HG0.out hb); clear hb))
  obtain ⟨fs, hfs⟩ : ∃ fs : List FactP, fs = [(isV (.slice (some ⟨g, o, none⟩) R cap)), (isV (.agg #[.int .i64 dx, .int .i64 dy])), (fun u w2 => InDirs w2 u [(dx, dy)]), (fun u w2 => ∃ b, u = .map (some b) ∧ LM w2 b 50 (thereK (fun k => linesC C f (R * C) k [(dx, dy)])) (fun k => linesC C f (R * C) k [(dx, dy)])), (isV (.slice (some ⟨g, o, none⟩) R cap)), (isV (.int .i64 R)), (isV (.slice (some ⟨g, o, none⟩) R cap)), (isV (.pointer (some ⟨g, o, none⟩))), (isV (.slice (some ⟨g', o', none⟩) C c')), (isV (.int .i64 C)), (isV (.agg #[.int .i64 dx, .int .i64 dy])), (isV (.int .i64 N)), (fun u w2 => w2.ownsRow w.heap.size 3 1 u N (ints (rowF N fun i => linesC C f (R * C) ⟨dx, dy, i⟩ [(dx, dy)])))] := ⟨_, rfl⟩
  have hst : ∀ f ∈ fs, StableP f := by
    rw [hfs]; intro f hf
    simp only [List.mem_cons, List.not_mem_nil, or_false] at hf
    rcases hf with rfl | rfl | rfl | rfl | rfl | rfl | rfl | rfl | rfl | rfl | rfl | rfl | rfl <;> first | exact stable_v _ | exact fun u w2 w3 hb h => inDirs_below h hb | exact fun u w2 w3 hb h => ⟨h.choose, h.choose_spec.1, lm_below h.choose_spec.2 hb⟩ | exact fun u w2 w3 hb h => own_below h hb
  subst hfs
  refine wp_region_tail (S := fun w2 => DirAt w2 w.heap.size dx dy ∧ Below w.heap.size w w2) [(isV (.slice (some ⟨g, o, none⟩) R cap)), (isV (.agg #[.int .i64 dx, .int .i64 dy])), (fun u w2 => InDirs w2 u [(dx, dy)]), (fun u w2 => ∃ b, u = .map (some b) ∧ LM w2 b 50 (thereK (fun k => linesC C f (R * C) k [(dx, dy)])) (fun k => linesC C f (R * C) k [(dx, dy)])), (isV (.slice (some ⟨g, o, none⟩) R cap)), (isV (.int .i64 R)), (isV (.slice (some ⟨g, o, none⟩) R cap)), (isV (.pointer (some ⟨g, o, none⟩))), (isV (.slice (some ⟨g', o', none⟩) C c')), (isV (.int .i64 C)), (isV (.agg #[.int .i64 dx, .int .i64 dy])), (isV (.int .i64 N)), (fun u w2 => w2.ownsRow w.heap.size 3 1 u N (ints (rowF N fun i => linesC C f (R * C) ⟨dx, dy, i⟩ [(dx, dy)])))] [(0, .slice (some ⟨g, o, none⟩) R cap), (3, .pointer (some ⟨w.heap.size, 0, none⟩))] _ _ 13 (by kernel_rfl) rfl rfl (by kernel_rfl) (by kernel_rfl) rfl (by kernel_rfl) ?base ⟨HG1.out, below_drew HB1.out⟩ ?ob rfl ?fin
  case base =>
    intro t v ht
    simp only [List.lookup_cons, List.lookup_nil] at ht
    repeat' split at ht
    all_goals first | (cases ht; done) | (obtain rfl := Option.some.inj ht; rename_i hh; obtain rfl := eq_of_beq hh; rfl)
  case ob =>
    exact ⟨obt_move (.slice (some ⟨g, o, none⟩) R cap) rfl rfl rfl (srt_b 0 rfl),
      obt_one (.agg #[.int .i64 dx, .int .i64 dy]) rfl rfl (srt_b 3 rfl) (fun ρ w2 hS hx => exec_loadDir rfl hx hS.1),
      obt_make hst rfl (fun a w2 hS hs => by
      have hh : Below w2.heap.size w2 (w2.alloc (.cells #[.int .i64 dx, .int .i64 dy] 34)) := (Below.refl _ _).alloc (Nat.le_refl _) _
      exact ⟨_, _, exec_dirs1 rfl (hs _ _ (srt_j 1 rfl (by kernel_rfl) rfl)), ⟨dirAt_below hS.1 hh, hS.2.trans (hh.mono hS.2.size)⟩, hh, inDirs1 w2 dx dy⟩),
      obt_call_r hst 2 rfl Try.func48 (by kernel_rfl) (by kernel_rfl) rfl rfl (by kernel_rfl) (srt_j 0 rfl (by kernel_rfl) rfl) (fun v w2 hS hf => (lineMapOf_any _ v R C f [(dx, dy)] w2 (inMat_below HM.out hS.2) HI.out hf (by simp) (fun d hd => by simp only [List.mem_singleton] at hd; subst hd; exact HN.out)).mono fun e w3 ⟨b, he, _, hl, hh⟩ => ⟨_, he, ⟨dirAt_below hS.1 hh, hS.2.trans (hh.mono hS.2.size)⟩, hh, b, rfl, hl⟩),
      obt_move (.slice (some ⟨g, o, none⟩) R cap) rfl rfl rfl (srt_b 0 rfl),
      obt_one (.int .i64 R) rfl rfl (srt_j 4 rfl (by kernel_rfl) rfl) (fun ρ w2 hS hx => by go_simp),
      obt_move (.slice (some ⟨g, o, none⟩) R cap) rfl rfl rfl (srt_b 0 rfl),
      obt_two (.pointer (some ⟨g, o, none⟩)) rfl rfl (srt_j 6 rfl (by kernel_rfl) rfl) (srt_c (v := .int .i64 0)) (fun ρ w2 hS hx hy => by go_simp),
      obt_one (.slice (some ⟨g', o', none⟩) C c') rfl rfl (srt_j 7 rfl (by kernel_rfl) rfl) (fun ρ w2 hS hx => by have hc := below_cell hS.2 hg HCR.out; go_simp),
      obt_one (.int .i64 C) rfl rfl (srt_j 8 rfl (by kernel_rfl) rfl) (fun ρ w2 hS hx => by go_simp),
      obt_one (.agg #[.int .i64 dx, .int .i64 dy]) rfl rfl (srt_b 3 rfl) (fun ρ w2 hS hx => exec_loadDir rfl hx hS.1),
      obt_call hst [.int .i64 R, .int .i64 C, .agg #[.int .i64 dx, .int .i64 dy]] rfl Try.func28 (by kernel_rfl) (by kernel_rfl) rfl ⟨(srt_j 5 rfl (by kernel_rfl) rfl), (srt_j 9 rfl (by kernel_rfl) rfl), (srt_j 10 rfl (by kernel_rfl) rfl), trivial⟩ (fun w2 hS => (implCountLines_any R C dx dy w2).mono fun e w3 ⟨he, hh⟩ => ⟨_, he, ⟨dirAt_below hS.1 hh, hS.2.trans (hh.mono hS.2.size)⟩, hh, by rw [if_pos HZ.out, ← HNN.out]; rfl⟩),
      obt_call_l hst 3 rfl Try.func49 (by kernel_rfl) (by kernel_rfl) rfl rfl (by kernel_rfl) (srt_j 11 rfl (by kernel_rfl) rfl) (fun v w2 hS hf => by
      obtain ⟨b, rfl, hl⟩ := hf
      exact (list_any b 50 N _ _ dx dy w2 hl (fun k _ hk => line_there HN.out HI.out HNN.out k hk) (by omega) (WalkArith.wf_i64 (by have := HN.out.x1; have := HN.out.x2; omega)) (WalkArith.wf_i64 (by have := HN.out.y1; have := HN.out.y2; omega))).mono fun e w3 ⟨u, he, ho, hh⟩ => ⟨_, he, ⟨dirAt_below hS.1 hh, hS.2.trans (hh.mono hS.2.size)⟩, hh, own_base ho hS.2.size⟩),
      trivial⟩
  case fin =>
    intro a' w' h1 h2 h3 hS h4 K hK
    obtain ⟨u, HU⟩ : ∃ u, Hid (a'.eval (.tmp 25) = u) := ⟨_, hide rfl⟩
    have HO := hide (h4 12 25 rfl (by decide))
    refine tail_assign rfl HU.out ?_ K hK
    go_wp2
    refine bodyPost_ret (results_tmp rfl _ _ _) rfl ⟨u, congrArg Ending.returned (set_get (d := 4) (n := 26) h1 (by decide)), ?_, hS.2⟩
    have e : lineRow R C f dx dy N = rowF N fun i => linesC C f (R * C) ⟨dx, dy, i⟩ [(dx, dy)] := rowF_congr fun i _ => (line_one i).symm
    rw [e, rowF_len, ← HU.out]; exact HO.out
end Go.Proofs.Yteogbddbafkieaa
