/-
  LineSums of the model.
-/
import Derived.Test.YteogbddbafkieaaRowS
namespace Go.Proofs.Yteogbddbafkieaa
open Go.RowKit

theorem exec_makeI {ρ : Operand → Value} {o : Oper} {w : World} {x : Operand} {N : Nat} (ho : o.op = .makeSlice 24 x x) (hx : ρ x = .int .i64 N) (hN : N < 4000000) :
    ∃ w', (execOp ρ o).run Try.prog w = .ok (.value (.slice (some ⟨w.heap.size, 0, none⟩) N N)) w' ∧ w'.ownsRow w.heap.size 3 1 (.slice (some ⟨w.heap.size, 0, none⟩) N N) N (List.replicate N (.int .i64 0)) ∧ Below w.heap.size w w' := by
  obtain ⟨i0, hi, hz0, hz1, hz2⟩ := info_parts Try.infoInt
  obtain ⟨w', hrun, r1, r2⟩ := run_make_full (P := Try.prog) w w.heap.size 24 3 i0 (.int .i64 0) 1 Try.underlying24 hi hz0 hz1 .i64 .i64 N (by rw [hz2]; omega) (by unfold maxLen; omega) (Nat.le_refl _)
  refine ⟨w', ?_, ?_, grown_below r2 (fun k hk => by cases hk) (Nat.le_refl _)⟩
  · unfold execOp
    simp only [ho, hx]
    simp [hrun, Result.andThen]
  · rw [show (Value.int IntKind.i64 0).cells = #[.int .i64 0] from rfl, Nat.mul_one, toList_madeCells_one] at r1
    exact r1
/-- A new list of N zeros, in a block above B. -/
def newI (B N : Nat) : FactP := fun u w2 => ∃ G, u = .slice (some ⟨G, 0, none⟩) N N ∧ B < G ∧ w2.ownsRow G 3 1 (.slice (some ⟨G, 0, none⟩) N N) N (List.replicate N (.int .i64 0))
theorem stable_newI (B N : Nat) : StableP (newI B N) := fun _ _ _ hb h => ⟨h.choose, h.choose_spec.1, h.choose_spec.2.1, own_below h.choose_spec.2.2 hb⟩
theorem obt_makeI {Q : Exit → Act → World → Prop} {base : List (Tmp × Value)} {dsts : List (Option Tmp)} {S : World → Prop} {fs : List FactP} {i : Nat} {o : Oper} {x : Operand} {B N : Nat} (hst : ∀ f ∈ fs, StableP f) (ho : o.op = .makeSlice 24 x x) (hg : o.guard = none)
    (hx : SrcT base dsts fs o x (.int .i64 N)) (hN : N < 4000000) (hf : factP fs i = newI B N) (hB : ∀ w, S w → B < w.heap.size) (hS1 : ∀ w w', S w → Below w.heap.size w w' → S w') : Obt Try.prog Q base dsts S fs i o :=
  obt_make hst hg fun a w2 hS hs => by
    obtain ⟨w3, q1, q2, hh⟩ := exec_makeI (w := w2) ho (hs _ _ hx) hN
    exact ⟨_, _, q1, hS1 _ _ hS hh, hh, by rw [hf]; exact ⟨w2.heap.size, rfl, hB _ hS, q2⟩⟩
set_option maxHeartbeats 400000 in
theorem specLineSums_img (v : Value) (m : List (List Int)) (dx dy : Int) (w : World) (hin : InMat w v m) (h : okB m = false) :
    Calls Try.prog 29 #[v, .agg #[.int .i64 dx, .int .i64 dy]] w (IntsRes [] w) := by
  have HB := hide ((Below.refl w.heap.size w).alloc (Nat.le_refl _) (.cells #[.int .i64 dx, .int .i64 dy] 34))
  have HI := hide (inMat_below hin HB.out); have H := hide h
  clear hin h
  go_enter Try.func29, Try.ntmps29
  go_wp2_with ((with_reducible refine (specImageOk_any v m _ HI.out).mono ?_); rw [H.out]; rintro e w' ⟨rfl, rfl⟩)
  go_ret
  exact intsRes_nil HB.out
set_option maxHeartbeats 400000 in
theorem specLineSums_dir (v : Value) (m : List (List Int)) (dx dy : Int) (w : World) (hin : InMat w v m) (h : okB m = true) (hd : dirOk dx dy = false) :
    Calls Try.prog 29 #[v, .agg #[.int .i64 dx, .int .i64 dy]] w (IntsRes [] w) := by
  have HB := hide ((Below.refl w.heap.size w).alloc (Nat.le_refl _) (.cells #[.int .i64 dx, .int .i64 dy] 34))
  have HI := hide (inMat_below hin HB.out); have H := hide h; have HD := hide hd
  clear hin h hd
  go_enter Try.func29, Try.ntmps29
  go_wp2_with (first | ((with_reducible refine (specImageOk_any v m _ HI.out).mono ?_); rw [H.out]; rintro e w' ⟨rfl, rfl⟩) | ((with_reducible refine (specDirectionOk_any dx dy _).mono ?_); rw [HD.out]; rintro e w1 ⟨rfl, hb⟩; have HB1 := hide (HB.out.trans (hb.mono HB.out.size)); clear hb))
  go_ret
  exact intsRes_nil HB1.out

theorem onL_step {R C : Nat} {f : Nat → Nat → Int} {dx dy : Int} (hI : Img R C f) {y x : Nat} (hy : y < R) (hx : x < C) {N k : Nat} (hk : (k : Int) = lnum dx dy C y x) (z : Int) (hz : f y x = z) :
    (rowF N fun i => if i = k then ((cnt (onL C f (dx, dy) k) (C * y + x) : Nat) : Int) + z else (cnt (onL C f (dx, dy) i) (C * y + x) : Nat)) = rowF N fun i => (cnt (onL C f (dx, dy) i) (C * y + (x + 1)) : Nat) := by
  refine rowF_congr fun i _ => ?_
  have e : onL C f (dx, dy) i (C * y + x) = (f y x == 1 && lnum dx dy C y x == i) := onL_at hx
  have hc := hI.cell y x hy hx
  rw [← Nat.add_assoc]
  by_cases h : i = k
  · subst h
    rw [if_pos rfl]
    rcases hc with h0 | h1
    · rw [cnt_no (by rw [e, h0]; rfl), ← hz, h0]; simp
    · rw [cnt_yes (by rw [e, h1, ← hk]; simp), ← hz, h1]; simp
  · rw [if_neg h, cnt_no]
    rw [e, ← hk]
    have : ((k : Int) == (i : Int)) = false := by simp; omega
    rw [this, Bool.and_false]

set_option maxRecDepth 100000 in
set_option maxHeartbeats 4000000 in
theorem specLineSums_yes (v : Value) (R C N : Nat) (f : Nat → Nat → Int) (dx dy : Int) (w : World) (hin : InMat w v (mkM R C f)) (hI : Img R C f) (hd : dirOk dx dy = true) (hN : (N : Int) = countL R C dx dy) (hN2 : N ≤ 41) :
    Calls Try.prog 29 #[v, .agg #[.int .i64 dx, .int .i64 dy]] w (IntsRes (lineRow R C f dx dy N) w) := by
  have hb0 := (Below.refl w.heap.size w).alloc (Nat.le_refl _) (.cells #[.int .i64 dx, .int .i64 dy] 34)
  have HI := hide hI; have HD := hide hd; have HN := hide (near_of hd); have HNN := hide hN
  have HIN0 := hide (inMat_below hin hb0)
  have HB0 := hide hb0
  have hso : sizeOk R C = true := by rw [sizeOk, decide_eq_true (show (1 : Int) ≤ R ∧ (R : Int) ≤ 5 by have := hI.r1; have := hI.r2; omega), decide_eq_true (show (1 : Int) ≤ C ∧ (C : Int) ≤ 5 by have := hI.c1; have := hI.c2; omega)]; rfl
  have HZ : Hid ((sizeOk R C && dirOk dx dy) = true) := hide (by rw [hd, hso]; rfl)
  have HSO := hide hso
  obtain ⟨g, o, cap, rfl, hg, hrow⟩ := inMat_img hin (by have := hI.r1; omega) (by have := hI.c1; omega)
  have HROW := hide hrow
  obtain ⟨r1, r2, c1, c2, -⟩ := hI
  obtain ⟨g1, o1, k1, hcr, -, -⟩ := hrow 0 (by omega)
  rw [Nat.add_zero] at hcr
  have HCR := hide hcr
  have hR0 : 0 < R := by omega
  have HG0 := hide (show DirAt (w.alloc (.cells #[.int .i64 dx, .int .i64 dy] 34)) w.heap.size dx dy from heap_alloc_new w _)
  clear hin hd hN hrow hb0 hcr hso
  go_enter Try.func29, Try.ntmps29
  go_wp2_with (first | ((with_reducible refine (specImageOk_any _ _ _ HIN0.out).mono ?_); rw [img_ok HI.out]; rintro e w' ⟨rfl, rfl⟩) | ((with_reducible refine (specDirectionOk_any dx dy _).mono ?_); rw [HD.out]; rintro e w1 ⟨rfl, hb⟩; have HB1 := hide (HB0.out.trans (hb.mono HB0.out.size)); have HG1 := hide (dirAt_below HG0.out hb); clear hb))
  obtain ⟨fs, hfs⟩ : ∃ fs : List FactP, fs = [isV (.slice (some ⟨g, o, none⟩) R cap), isV (.int .i64 R), isV (.slice (some ⟨g, o, none⟩) R cap), isV (.pointer (some ⟨g, o, none⟩)), isV (.slice (some ⟨g1, o1, none⟩) C k1), isV (.int .i64 C), isV (.agg #[.int .i64 dx, .int .i64 dy]), isV (.int .i64 N), newI w.heap.size N] := ⟨_, rfl⟩
  have hst : ∀ f ∈ fs, StableP f := by
    rw [hfs]; intro f hf
    simp only [List.mem_cons, List.not_mem_nil, or_false] at hf
    rcases hf with rfl | rfl | rfl | rfl | rfl | rfl | rfl | rfl | rfl <;> first | exact stable_v _ | exact stable_newI _ _
  subst hfs
  refine wp_region_tail (S := fun w2 => DirAt w2 w.heap.size dx dy ∧ Below w.heap.size w w2) [isV (.slice (some ⟨g, o, none⟩) R cap), isV (.int .i64 R), isV (.slice (some ⟨g, o, none⟩) R cap), isV (.pointer (some ⟨g, o, none⟩)), isV (.slice (some ⟨g1, o1, none⟩) C k1), isV (.int .i64 C), isV (.agg #[.int .i64 dx, .int .i64 dy]), isV (.int .i64 N), newI w.heap.size N] [(0, .slice (some ⟨g, o, none⟩) R cap), (3, .pointer (some ⟨w.heap.size, 0, none⟩))] _ _ 9 (by kernel_rfl) rfl rfl (by kernel_rfl) (by kernel_rfl) rfl (by kernel_rfl) ?base ⟨HG1.out, below_drew HB1.out⟩ ?ob rfl ?fin
  case base =>
    intro t v ht
    simp only [List.lookup_cons, List.lookup_nil] at ht
    repeat' split at ht
    all_goals first | (cases ht; done) | (obtain rfl := Option.some.inj ht; rename_i hh; obtain rfl := eq_of_beq hh; rfl)
  case ob =>
    exact ⟨obt_move (.slice (some ⟨g, o, none⟩) R cap) rfl rfl rfl (srt_b 0 rfl),
      obt_one (.int .i64 R) rfl rfl (srt_j 0 rfl (by kernel_rfl) rfl) (fun ρ w2 hS hx => by go_simp),
      obt_move (.slice (some ⟨g, o, none⟩) R cap) rfl rfl rfl (srt_b 0 rfl),
      obt_two (.pointer (some ⟨g, o, none⟩)) rfl rfl (srt_j 2 rfl (by kernel_rfl) rfl) (srt_c (v := .int .i64 0)) (fun ρ w2 hS hx hy => by go_simp),
      obt_one (.slice (some ⟨g1, o1, none⟩) C k1) rfl rfl (srt_j 3 rfl (by kernel_rfl) rfl) (fun ρ w2 hS hx => by have hc := below_cell hS.2 hg HCR.out; go_simp),
      obt_one (.int .i64 C) rfl rfl (srt_j 4 rfl (by kernel_rfl) rfl) (fun ρ w2 hS hx => by go_simp),
      obt_one (.agg #[.int .i64 dx, .int .i64 dy]) rfl rfl (srt_b 3 rfl) (fun ρ w2 hS hx => exec_loadDir rfl hx hS.1),
      obt_call hst [.int .i64 R, .int .i64 C, .agg #[.int .i64 dx, .int .i64 dy]] rfl Try.func27 (by kernel_rfl) (by kernel_rfl) rfl ⟨(srt_j 1 rfl (by kernel_rfl) rfl), (srt_j 5 rfl (by kernel_rfl) rfl), (srt_j 6 rfl (by kernel_rfl) rfl), trivial⟩ (fun w2 hS => (specCountLines_any R C dx dy w2).mono fun e w3 ⟨he, hh⟩ => ⟨_, he, ⟨dirAt_below hS.1 hh, hS.2.trans (hh.mono hS.2.size)⟩, hh, by rw [if_pos HZ.out, ← HNN.out]; rfl⟩),
      obt_makeI hst rfl rfl (srt_j 7 rfl (by kernel_rfl) rfl) (by omega) rfl (fun w2 hS => (Array.getElem?_eq_some_iff.1 hS.1).1) (fun w2 w3 hS hh => ⟨dirAt_below hS.1 hh, hS.2.trans (hh.mono hS.2.size)⟩),
      trivial⟩
  case fin =>
    intro a' w' h1 h2 h3 hS h4 K hK
    obtain ⟨G, hu, hGw, ho⟩ := h4 8 27 rfl (by decide)
    have hv : a'.eval (.tmp 27) = .slice (some ⟨G, 0, none⟩) N N := hu
    refine tail_assign rfl hv ?_ K hK
    have ha : a' = ⟨List.toArray [.slice (some ⟨g, o, none⟩) R cap, .agg #[.int .i64 dx, .int .i64 dy], undef, .pointer (some ⟨w.heap.size, 0, none⟩), .slice none 0 0, a'.tmps.getD 5 undef, undef, undef, undef, undef, undef, .slice (some ⟨g, o, none⟩) R cap, .bool true, .bool false, .bool false, .agg #[.int .i64 dx, .int .i64 dy], .bool true, .bool false, .bool false, a'.tmps.getD 19 undef, a'.tmps.getD 20 undef, a'.tmps.getD 21 undef, a'.tmps.getD 22 undef, a'.tmps.getD 23 undef, a'.tmps.getD 24 undef, a'.tmps.getD 25 undef, a'.tmps.getD 26 undef, a'.tmps.getD 27 undef, undef, undef, undef, undef, undef, undef, undef, undef, undef, undef, undef, undef, undef, undef, undef, undef, undef, undef, undef, undef, undef, undef, undef, undef, undef, undef, undef, undef, undef, undef, undef, undef, undef, undef, undef, undef], []⟩ := frame_eq _ h1 h2 ⟨(h3 0 (by kernel_rfl)), (h3 1 (by kernel_rfl)), (h3 2 (by kernel_rfl)), (h3 3 (by kernel_rfl)), (h3 4 (by kernel_rfl)), rfl, (h3 6 (by kernel_rfl)), (h3 7 (by kernel_rfl)), (h3 8 (by kernel_rfl)), (h3 9 (by kernel_rfl)), (h3 10 (by kernel_rfl)), (h3 11 (by kernel_rfl)), (h3 12 (by kernel_rfl)), (h3 13 (by kernel_rfl)), (h3 14 (by kernel_rfl)), (h3 15 (by kernel_rfl)), (h3 16 (by kernel_rfl)), (h3 17 (by kernel_rfl)), (h3 18 (by kernel_rfl)), rfl, rfl, rfl, rfl, rfl, rfl, rfl, rfl, rfl, (h3 28 (by kernel_rfl)), (h3 29 (by kernel_rfl)), (h3 30 (by kernel_rfl)), (h3 31 (by kernel_rfl)), (h3 32 (by kernel_rfl)), (h3 33 (by kernel_rfl)), (h3 34 (by kernel_rfl)), (h3 35 (by kernel_rfl)), (h3 36 (by kernel_rfl)), (h3 37 (by kernel_rfl)), (h3 38 (by kernel_rfl)), (h3 39 (by kernel_rfl)), (h3 40 (by kernel_rfl)), (h3 41 (by kernel_rfl)), (h3 42 (by kernel_rfl)), (h3 43 (by kernel_rfl)), (h3 44 (by kernel_rfl)), (h3 45 (by kernel_rfl)), (h3 46 (by kernel_rfl)), (h3 47 (by kernel_rfl)), (h3 48 (by kernel_rfl)), (h3 49 (by kernel_rfl)), (h3 50 (by kernel_rfl)), (h3 51 (by kernel_rfl)), (h3 52 (by kernel_rfl)), (h3 53 (by kernel_rfl)), (h3 54 (by kernel_rfl)), (h3 55 (by kernel_rfl)), (h3 56 (by kernel_rfl)), (h3 57 (by kernel_rfl)), (h3 58 (by kernel_rfl)), (h3 59 (by kernel_rfl)), (h3 60 (by kernel_rfl)), (h3 61 (by kernel_rfl)), (h3 62 (by kernel_rfl)), (h3 63 (by kernel_rfl)), trivial⟩
    rw [ha]
    have HO := hide ho; have HG := hide hS.1; have HB := hide hS.2
    have hGs := (ho.lt _ rfl).2
    clear hu ho hv h1 h2 h3 h4 hS hst ha hK
    generalize a'.tmps.getD 5 undef = p5
    generalize a'.tmps.getD 19 undef = p19
    generalize a'.tmps.getD 20 undef = p20
    generalize a'.tmps.getD 21 undef = p21
    generalize a'.tmps.getD 22 undef = p22
    generalize a'.tmps.getD 23 undef = p23
    generalize a'.tmps.getD 24 undef = p24
    generalize a'.tmps.getD 25 undef = p25
    generalize a'.tmps.getD 26 undef = p26
    generalize a'.tmps.getD 27 undef = p27
    go_wp2
    go_loopw [30] (fun i wr => ∃ y : Nat, y ≤ R ∧ i = .int .i64 y ∧ wr.ownsRow G 3 1 (.slice (some ⟨G, 0, none⟩) N N) N (ints (rowF N fun i => (cnt (onL C f (dx, dy) i) (C * y) : Nat))) ∧ Below w.heap.size w wr ∧ DirAt wr w.heap.size dx dy) (fun i _ => R - (intOf i).toNat)
    case atStart =>
      have e : List.replicate N (Value.int .i64 0) = ints (rowF N fun i => (cnt (onL C f (dx, dy) i) (C * 0) : Nat)) := zeros_rowF N
      exact ⟨0, Nat.zero_le _, rfl, by rw [← e]; exact HO.out, HB.out, HG.out⟩
    case round =>
      obtain ⟨y, hy, rfl, ho, hb, hg2⟩ := hrel
      have HO1 := hide ho; have HB1 := hide hb; have HG1 := hide hg2
      have hgw := (ho.lt _ rfl).2
      clear ho hb hg2
      by_cases hly : y < R
      · obtain ⟨g', o', c', hcr, hg', hcell⟩ := HROW.out y hly
        have hcr := below_cell HB1.out hg hcr
        have HCELL := hide hcell
        clear hcell
        go_wp2
        go_loopw [37] (fun i wr => ∃ x : Nat, x ≤ C ∧ i = .int .i64 x ∧ wr.ownsRow G 3 1 (.slice (some ⟨G, 0, none⟩) N N) N (ints (rowF N fun i => (cnt (onL C f (dx, dy) i) (C * y + x) : Nat))) ∧ Below w.heap.size w wr ∧ DirAt wr w.heap.size dx dy) (fun i _ => C - (intOf i).toNat)
        case atStart => exact ⟨0, Nat.zero_le _, rfl, HO1.out, HB1.out, HG1.out⟩
        case round =>
          obtain ⟨x, hx, rfl, ho, hb, hg2⟩ := hrel
          have HO2 := hide ho; have HB2 := hide hb; have HG2 := hide hg2
          have hgw := (ho.lt _ rfl).2
          clear ho hb hg2
          by_cases hlx : x < C
          · have hcx := below_cell HB2.out hg' (HCELL.out x hlx)
            obtain ⟨p1, p2, p3⟩ := lnum_range (rows := R) (cols := C) (y := y) (x := x) HN.out (by omega) (by omega) (by omega) (by omega) (by omega) (by omega) (by omega) (by omega)
            have hlo : lineOf R C dx dy y x = lnum dx dy C y x := by
              rw [lineOf, if_pos ⟨⟨HSO.out, HD.out⟩, ⟨by omega, by omega⟩, by omega, by omega⟩]
            have hkN : lnum dx dy C y x < N := by rw [HNN.out]; unfold countL; omega
            obtain ⟨k, hk⟩ : ∃ k : Nat, (k : Int) = lnum dx dy C y x := ⟨(lnum dx dy C y x).toNat, by omega⟩
            have HLO : Hid (lineOf R C dx dy y x = k) := hide (by rw [hlo, hk])
            have hkN : k < N := by omega
            have hz := HI.out.cell y x hly hlx
            have HST := hide (fun z hz => onL_step HI.out hly hlx (N := N) hk z hz)
            obtain ⟨z, HZ1⟩ : ∃ z, Hid (f y x = z) := ⟨_, hide rfl⟩
            rw [HZ1.out] at hcx
            have hzb : 0 ≤ z ∧ z ≤ 1 := by rw [← HZ1.out]; rcases hz with e | e <;> rw [e] <;> decide
            obtain ⟨hz0, hz1⟩ := hzb
            clear hlo hk hz p1 p2 p3
            go_upto_region 10 with fail
            obtain ⟨fs, hfs⟩ : ∃ fs : List FactP, fs = [isV (.slice (some ⟨g, o, none⟩) R cap), isV (.int .i64 R), isV (.slice (some ⟨g, o, none⟩) R cap), isV (.pointer (some ⟨g, o, none⟩)), isV (.slice (some ⟨g1, o1, none⟩) C k1), isV (.int .i64 C), isV (.agg #[.int .i64 dx, .int .i64 dy]), isV (.int .i64 y), isV (.int .i64 x), isV (.int .i64 k)] := ⟨_, rfl⟩
            have hst : ∀ f ∈ fs, StableP f := by
              rw [hfs]; intro f hf
              simp only [List.mem_cons, List.not_mem_nil, or_false] at hf
              rcases hf with rfl | rfl | rfl | rfl | rfl | rfl | rfl | rfl | rfl | rfl <;> exact stable_v _
            subst hfs
            refine wp_region_tail (S := fun w2 => DirAt w2 w.heap.size dx dy ∧ Below w.heap.size w w2 ∧ w2.ownsRow G 3 1 (.slice (some ⟨G, 0, none⟩) N N) N (ints (rowF N fun i => (cnt (onL C f (dx, dy) i) (C * y + x) : Nat)))) [isV (.slice (some ⟨g, o, none⟩) R cap), isV (.int .i64 R), isV (.slice (some ⟨g, o, none⟩) R cap), isV (.pointer (some ⟨g, o, none⟩)), isV (.slice (some ⟨g1, o1, none⟩) C k1), isV (.int .i64 C), isV (.agg #[.int .i64 dx, .int .i64 dy]), isV (.int .i64 y), isV (.int .i64 x), isV (.int .i64 k)] [(0, .slice (some ⟨g, o, none⟩) R cap), (3, .pointer (some ⟨w.heap.size, 0, none⟩)), (6, .int .i64 y), (8, .int .i64 x)] _ _ 10 (by kernel_rfl) rfl rfl (by kernel_rfl) (by kernel_rfl) rfl (by kernel_rfl) ?base ⟨HG2.out, below_drew HB2.out, HO2.out⟩ ?ob rfl ?fin
            case base =>
              intro t v ht
              simp only [List.lookup_cons, List.lookup_nil] at ht
              repeat' split at ht
              all_goals first | (cases ht; done) | (obtain rfl := Option.some.inj ht; rename_i hh; obtain rfl := eq_of_beq hh; rfl)
            case ob =>
              exact ⟨obt_move (.slice (some ⟨g, o, none⟩) R cap) rfl rfl rfl (srt_b 0 rfl),
                obt_one (.int .i64 R) rfl rfl (srt_j 0 rfl (by kernel_rfl) rfl) (fun ρ w2 hS hx => by go_simp),
                obt_move (.slice (some ⟨g, o, none⟩) R cap) rfl rfl rfl (srt_b 0 rfl),
                obt_two (.pointer (some ⟨g, o, none⟩)) rfl rfl (srt_j 2 rfl (by kernel_rfl) rfl) (srt_c (v := .int .i64 0)) (fun ρ w2 hS hx hy => by go_simp),
                obt_one (.slice (some ⟨g1, o1, none⟩) C k1) rfl rfl (srt_j 3 rfl (by kernel_rfl) rfl) (fun ρ w2 hS hx => by have hc := below_cell hS.2.1 hg HCR.out; go_simp),
                obt_one (.int .i64 C) rfl rfl (srt_j 4 rfl (by kernel_rfl) rfl) (fun ρ w2 hS hx => by go_simp),
                obt_one (.agg #[.int .i64 dx, .int .i64 dy]) rfl rfl (srt_b 3 rfl) (fun ρ w2 hS hx => exec_loadDir rfl hx hS.1),
                obt_move (.int .i64 y) rfl rfl rfl (srt_b 6 rfl),
                obt_move (.int .i64 x) rfl rfl rfl (srt_b 8 rfl),
                obt_call hst [.int .i64 R, .int .i64 C, .agg #[.int .i64 dx, .int .i64 dy], .int .i64 y, .int .i64 x] rfl Try.func25 (by kernel_rfl) (by kernel_rfl) rfl ⟨(srt_j 1 rfl (by kernel_rfl) rfl), (srt_j 5 rfl (by kernel_rfl) rfl), (srt_j 6 rfl (by kernel_rfl) rfl), (srt_j 7 rfl (by kernel_rfl) rfl), (srt_j 8 rfl (by kernel_rfl) rfl), trivial⟩ (fun w2 hS => (specLineOf_any R C dx dy y x w2).mono fun e w3 ⟨he, hh⟩ => ⟨_, he, ⟨dirAt_below hS.1 hh, hS.2.1.trans (hh.mono hS.2.1.size), own_below hS.2.2 hh⟩, hh, by rw [HLO.out]; rfl⟩),
                trivial⟩
            case fin =>
              intro a' w' h1 h2 h3 hS h4 K hK
              have hv : a'.eval (.tmp 51) = .int .i64 k := h4 9 51 rfl (by decide)
              refine tail_assign rfl hv ?_ K hK
              have ha : a' = ⟨List.toArray [.slice (some ⟨g, o, none⟩) R cap, .agg #[.int .i64 dx, .int .i64 dy], undef, .pointer (some ⟨w.heap.size, 0, none⟩), .slice none 0 0, .slice (some ⟨G, 0, none⟩) N N, .int .i64 y, .slice (some ⟨g', o', none⟩) C c', .int .i64 x, .int .i64 z, a'.tmps.getD 10 undef, .slice (some ⟨g, o, none⟩) R cap, .bool true, .bool false, .bool false, .agg #[.int .i64 dx, .int .i64 dy], .bool true, .bool false, .bool false, p19, p20, p21, p22, p23, p24, p25, p26, p27, .slice (some ⟨g, o, none⟩) R cap, .int .i64 R, .int .i64 y, .bool true, .int .i64 y, .pointer (some ⟨g, o + y, none⟩), .slice (some ⟨g', o', none⟩) C c', .slice (some ⟨g', o', none⟩) C c', .int .i64 C, .int .i64 x, .bool true, .int .i64 x, .pointer (some ⟨g', o' + x, none⟩), .int .i64 z, a'.tmps.getD 42 undef, a'.tmps.getD 43 undef, a'.tmps.getD 44 undef, a'.tmps.getD 45 undef, a'.tmps.getD 46 undef, a'.tmps.getD 47 undef, a'.tmps.getD 48 undef, a'.tmps.getD 49 undef, a'.tmps.getD 50 undef, a'.tmps.getD 51 undef, u52, u53, u54, u55, u56, u57, u58, u59, u60, u61, u62, undef], []⟩ := frame_eq _ h1 h2 ⟨(h3 0 (by kernel_rfl)), (h3 1 (by kernel_rfl)), (h3 2 (by kernel_rfl)), (h3 3 (by kernel_rfl)), (h3 4 (by kernel_rfl)), (h3 5 (by kernel_rfl)), (h3 6 (by kernel_rfl)), (h3 7 (by kernel_rfl)), (h3 8 (by kernel_rfl)), (h3 9 (by kernel_rfl)), rfl, (h3 11 (by kernel_rfl)), (h3 12 (by kernel_rfl)), (h3 13 (by kernel_rfl)), (h3 14 (by kernel_rfl)), (h3 15 (by kernel_rfl)), (h3 16 (by kernel_rfl)), (h3 17 (by kernel_rfl)), (h3 18 (by kernel_rfl)), (h3 19 (by kernel_rfl)), (h3 20 (by kernel_rfl)), (h3 21 (by kernel_rfl)), (h3 22 (by kernel_rfl)), (h3 23 (by kernel_rfl)), (h3 24 (by kernel_rfl)), (h3 25 (by kernel_rfl)), (h3 26 (by kernel_rfl)), (h3 27 (by kernel_rfl)), (h3 28 (by kernel_rfl)), (h3 29 (by kernel_rfl)), (h3 30 (by kernel_rfl)), (h3 31 (by kernel_rfl)), (h3 32 (by kernel_rfl)), (h3 33 (by kernel_rfl)), (h3 34 (by kernel_rfl)), (h3 35 (by kernel_rfl)), (h3 36 (by kernel_rfl)), (h3 37 (by kernel_rfl)), (h3 38 (by kernel_rfl)), (h3 39 (by kernel_rfl)), (h3 40 (by kernel_rfl)), (h3 41 (by kernel_rfl)), rfl, rfl, rfl, rfl, rfl, rfl, rfl, rfl, rfl, rfl, (h3 52 (by kernel_rfl)), (h3 53 (by kernel_rfl)), (h3 54 (by kernel_rfl)), (h3 55 (by kernel_rfl)), (h3 56 (by kernel_rfl)), (h3 57 (by kernel_rfl)), (h3 58 (by kernel_rfl)), (h3 59 (by kernel_rfl)), (h3 60 (by kernel_rfl)), (h3 61 (by kernel_rfl)), (h3 62 (by kernel_rfl)), (h3 63 (by kernel_rfl)), trivial⟩
              rw [ha]
              have HO3 := hide hS.2.2; have HB3 := hide hS.2.1; have HG3 := hide hS.1
              have hcl := cell_held hS.2.2 hkN
              have hfz := hS.2.2.frozenAt k
              have hcv : (ints (rowF N fun i => (cnt (onL C f (dx, dy) i) (C * y + x) : Nat))).getD k undef = .int .i64 (cnt (onL C f (dx, dy) k) (C * y + x) : Nat) := by
                rw [List.getD_eq_getElem?_getD, ints_at _ k (by rw [rowF_len]; exact hkN), rowF_at]; rfl
              rw [hcv] at hcl
              obtain ⟨q, HQ⟩ : ∃ q : Nat, Hid (cnt (onL C f (dx, dy) k) (C * y + x) = q) := ⟨_, hide rfl⟩
              have hqb : q ≤ 100 := by
                have h1 := cnt_le (onL C f (dx, dy) k) (C * y + x)
                have h2 : C * y ≤ 5 * 5 := Nat.mul_le_mul c2 (by omega)
                rw [← HQ.out]; omega
              rw [HQ.out] at hcl
              have hgw3 := (hS.2.2.lt _ rfl).2
              clear hcv hv h1 h2 h3 h4 hS hst ha hK
              generalize a'.tmps.getD 10 undef = q10
              generalize a'.tmps.getD 42 undef = q42
              generalize a'.tmps.getD 43 undef = q43
              generalize a'.tmps.getD 44 undef = q44
              generalize a'.tmps.getD 45 undef = q45
              generalize a'.tmps.getD 46 undef = q46
              generalize a'.tmps.getD 47 undef = q47
              generalize a'.tmps.getD 48 undef = q48
              generalize a'.tmps.getD 49 undef = q49
              generalize a'.tmps.getD 50 undef = q50
              generalize a'.tmps.getD 51 undef = q51
              obtain ⟨s1, s2⟩ := HO3.out.stored k (.int .i64 (q + z))
              have s2' : w'.grownBy (w'.setCell ⟨G, k, none⟩ (.int .i64 (q + z))) (some G) := s2
              have HS1 : Hid ((w'.setCell ⟨G, k, none⟩ (.int .i64 (q + z))).ownsRow G 3 1 (.slice (some ⟨G, 0, none⟩) N N) N (ints (rowF N fun i => (cnt (onL C f (dx, dy) i) (C * y + (x + 1)) : Nat)))) := hide (by
                rw [ints_set, rowF_set] at s1
                rw [← HST.out z HZ1.out, HQ.out]; exact s1)
              have HS2 := hide (HB3.out.trans (grown_below s2' (fun k hk => by cases hk; omega) HB3.out.size))
              have HS3 : Hid (DirAt (w'.setCell ⟨G, k, none⟩ (.int .i64 (q + z))) w.heap.size dx dy) := hide (by
                unfold DirAt; rw [s2'.block _ (Array.getElem?_eq_some_iff.1 HG3.out).1 (by simp; omega)]; exact HG3.out)
              clear s1 s2 s2'
              go_wp2
              go_roundw
              case rel => exact ⟨x + 1, by omega, by go_num, HS1.out, HS2.out, HS3.out⟩
              case measure => simp [intOf]; omega
          · obtain rfl : x = C := by omega
            go_wp2
            go_roundw
            case rel => exact ⟨y + 1, by omega, by go_num, by rw [Nat.mul_succ]; exact HO2.out, HB2.out, HG2.out⟩
            case measure => simp [intOf]; omega
      · obtain rfl : y = R := by omega
        go_wp2
        go_ret
        refine ⟨_, rfl, ?_, HB1.out⟩
        have e : lineRow y C f dx dy N = rowF N fun i => (cnt (onL C f (dx, dy) i) (C * y) : Nat) := by rw [lineRow, Nat.mul_comm]
        rw [e, rowF_len]
        exact own_base HO1.out (by omega)
end Go.Proofs.Yteogbddbafkieaa
