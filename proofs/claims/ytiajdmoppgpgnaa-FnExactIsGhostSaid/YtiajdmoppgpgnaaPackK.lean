/-
  Texts of this claim, one behind the other: GSums, LawsGS, DrFn, GhI.
-/
import Derived.Test.YtiajdmoppgpgnaaPackJ
import Derived.Test.YtiajdmoppgpgnaaPackI
import Derived.Test.YtiajdmoppgpgnaaPackD
import Derived.Lib.LazyBuf
/-
  GridSums of the model.
-/
namespace Go.Proofs.Ytiajdmoppgpgnaa
open Go.RowKit

set_option maxHeartbeats 400000 in
theorem specGridSums_no (v : Value) (m : List (List Int)) (dx dy : Int) (w : World) (hin : InMat w v m) (h : gridOkB m = false) :
    Calls Try.prog 20 #[v, .agg #[.int .i64 dx, .int .i64 dy]] w (IntsRes [] w) := by
  have HB := hide ((Below.refl w.heap.size w).alloc (Nat.le_refl _) (.cells #[.int .i64 dx, .int .i64 dy] 36))
  have HI := hide (inMat_below hin HB.out); have H := hide h
  clear hin h
  go_enter Try.func20, Try.ntmps20
  go_wp2_with ((with_reducible refine (l11Grid_any v m _ HI.out).mono ?_); rw [H.out]; rintro e w' ⟨rfl, rfl⟩)
  go_ret
  exact intsRes_nil HB.out
set_option maxHeartbeats 400000 in
theorem specGridSums_dir (v : Value) (m : List (List Int)) (dx dy : Int) (w : World) (hin : InMat w v m) (h : gridOkB m = true) (hd : dirOk dx dy = false) :
    Calls Try.prog 20 #[v, .agg #[.int .i64 dx, .int .i64 dy]] w (IntsRes [] w) := by
  have HB := hide ((Below.refl w.heap.size w).alloc (Nat.le_refl _) (.cells #[.int .i64 dx, .int .i64 dy] 36))
  have HI := hide (inMat_below hin HB.out); have H := hide h; have HD := hide hd
  clear hin h hd
  go_enter Try.func20, Try.ntmps20
  go_wp2_with (first | ((with_reducible refine (l11Grid_any v m _ HI.out).mono ?_); rw [H.out]; rintro e w' ⟨rfl, rfl⟩) | ((with_reducible refine (specDirectionOk_any dx dy _).mono ?_); rw [HD.out]; rintro e w1 ⟨rfl, hb⟩; have HB1 := hide (HB.out.trans (hb.mono HB.out.size)); clear hb))
  go_ret
  exact intsRes_nil HB1.out

theorem elL_step {C : Nat} {f : Nat → Nat → Int} {dx dy : Int} {y x : Nat} (hx : x < C) {N k : Nat} (hk : (k : Int) = lnum dx dy C y x) (z : Int) (hz : f y x = z) :
    (rowF N fun i => if i = k then sumF (elL C f (dx, dy) k) (C * y + x) + z else sumF (elL C f (dx, dy) i) (C * y + x)) = rowF N fun i => sumF (elL C f (dx, dy) i) (C * y + (x + 1)) := by
  refine rowF_congr fun i _ => ?_
  rw [← Nat.add_assoc, sumF, elL_at hx]
  by_cases h : i = k
  · subst h
    rw [if_pos rfl, if_pos hk.symm, hz]
  · rw [if_neg h, if_neg (fun e => h (by
      have e : lnum dx dy C y x = (i : Int) := e
      omega)), Int.add_zero]

set_option maxRecDepth 100000 in
set_option maxHeartbeats 4000000 in
theorem specGridSums_yes (v : Value) (R C N : Nat) (f : Nat → Nat → Int) (dx dy : Int) (w : World) (hin : InMat w v (mkM R C f)) (hR : 1 ≤ R ∧ R ≤ 5) (hC : 1 ≤ C ∧ C ≤ 5) (hS : Small R C f) (hgo : gridOkB (mkM R C f) = true) (hd : dirOk dx dy = true) (hN : (N : Int) = countL R C dx dy) (hN2 : N ≤ 41) :
    Calls Try.prog 20 #[v, .agg #[.int .i64 dx, .int .i64 dy]] w (IntsRes (lineRowE R C f dx dy N) w) := by
  have hb0 := (Below.refl w.heap.size w).alloc (Nat.le_refl _) (.cells #[.int .i64 dx, .int .i64 dy] 36)
  have HGO := hide hgo; have HSM := hide hS; have HD := hide hd; have HN := hide (near_of hd); have HNN := hide hN
  have HIN0 := hide (inMat_below hin hb0)
  have HB0 := hide hb0
  have hso : sizeOk R C = true := by rw [sizeOk, decide_eq_true (show (1 : Int) ≤ R ∧ (R : Int) ≤ 5 by omega), decide_eq_true (show (1 : Int) ≤ C ∧ (C : Int) ≤ 5 by omega)]; rfl
  have HZ : Hid ((sizeOk R C && dirOk dx dy) = true) := hide (by rw [hd, hso]; rfl)
  have HSO := hide hso
  obtain ⟨g, o, cap, rfl, hg, hrow⟩ := inMat_img hin (by omega) (by omega)
  have HROW := hide hrow
  obtain ⟨r1, r2⟩ := hR
  obtain ⟨c1, c2⟩ := hC
  obtain ⟨g1, o1, k1, hcr, -, -⟩ := hrow 0 (by omega)
  rw [Nat.add_zero] at hcr
  have HCR := hide hcr
  have hR0 : 0 < R := by omega
  have HG0 := hide (show DirAt (w.alloc (.cells #[.int .i64 dx, .int .i64 dy] 36)) w.heap.size dx dy from heap_alloc_new w _)
  clear hin hd hN hrow hb0 hcr hso hgo hS
  go_enter Try.func20, Try.ntmps20
  go_wp2_with (first | ((with_reducible refine (l11Grid_any _ _ _ HIN0.out).mono ?_); rw [HGO.out]; rintro e w' ⟨rfl, rfl⟩) | ((with_reducible refine (specDirectionOk_any dx dy _).mono ?_); rw [HD.out]; rintro e w1 ⟨rfl, hb⟩; have HB1 := hide (HB0.out.trans (hb.mono HB0.out.size)); have HG1 := hide (dirAt_below HG0.out hb); clear hb))
  obtain ⟨fs, hfs⟩ : ∃ fs : List FactP, fs = [isV (.slice (some ⟨g, o, none⟩) R cap), isV (.int .i64 R), isV (.slice (some ⟨g, o, none⟩) R cap), isV (.pointer (some ⟨g, o, none⟩)), isV (.slice (some ⟨g1, o1, none⟩) C k1), isV (.int .i64 C), isV (.agg #[.int .i64 dx, .int .i64 dy]), isV (.int .i64 N), newI w.heap.size N] := ⟨_, rfl⟩
  have hst : ∀ f ∈ fs, StableP f := by
    rw [hfs]; intro f hf
    simp only [List.mem_cons, List.not_mem_nil, or_false] at hf
    rcases hf with rfl | rfl | rfl | rfl | rfl | rfl | rfl | rfl | rfl <;> first | exact stable_v _ | exact stable_newI _ _
  subst hfs
  refine wp_region_tail (S := fun w2 => DirAt w2 w.heap.size dx dy ∧ Below w.heap.size w w2) [isV (.slice (some ⟨g, o, none⟩) R cap), isV (.int .i64 R), isV (.slice (some ⟨g, o, none⟩) R cap), isV (.pointer (some ⟨g, o, none⟩)), isV (.slice (some ⟨g1, o1, none⟩) C k1), isV (.int .i64 C), isV (.agg #[.int .i64 dx, .int .i64 dy]), isV (.int .i64 N), newI w.heap.size N] [(0, .slice (some ⟨g, o, none⟩) R cap), (3, .pointer (some ⟨w.heap.size, 0, none⟩))] _ _ 9 (by kernel_rfl) rfl rfl (by kernel_rfl) (by kernel_rfl) rfl (by kernel_rfl) ?base ⟨HG1.out, below_drew HB1.out⟩ ?ob rfl ?fin
  case base =>
    intro t v ht
    simp only [List.lookup_cons, List.lookup_nil] at ht
    repeat' split at ht
    all_goals first | (cases ht; done) | (obtain rfl := Option.some.inj ht; rename_i hh; obtain rfl := eq_of_beq hh; rfl)
  case ob =>
    exact ⟨obt_move (.slice (some ⟨g, o, none⟩) R cap) rfl rfl rfl (srt_b 0 rfl),
      obt_one (.int .i64 R) rfl rfl (srt_j 0 rfl (by kernel_rfl) rfl) (fun ρ w2 hS hx => by go_simp),
      obt_move (.slice (some ⟨g, o, none⟩) R cap) rfl rfl rfl (srt_b 0 rfl),
      obt_two (.pointer (some ⟨g, o, none⟩)) rfl rfl (srt_j 2 rfl (by kernel_rfl) rfl) (srt_c (v := .int .i64 0)) (fun ρ w2 hS hx hy => by go_simp),
      obt_one (.slice (some ⟨g1, o1, none⟩) C k1) rfl rfl (srt_j 3 rfl (by kernel_rfl) rfl) (fun ρ w2 hS hx => by have hc := below_cell hS.2 hg HCR.out; go_simp),
      obt_one (.int .i64 C) rfl rfl (srt_j 4 rfl (by kernel_rfl) rfl) (fun ρ w2 hS hx => by go_simp),
      obt_one (.agg #[.int .i64 dx, .int .i64 dy]) rfl rfl (srt_b 3 rfl) (fun ρ w2 hS hx => exec_loadDir rfl hx hS.1),
      obt_call hst [.int .i64 R, .int .i64 C, .agg #[.int .i64 dx, .int .i64 dy]] rfl Try.func63 (by kernel_rfl) (by kernel_rfl) rfl ⟨(srt_j 1 rfl (by kernel_rfl) rfl), (srt_j 5 rfl (by kernel_rfl) rfl), (srt_j 6 rfl (by kernel_rfl) rfl), trivial⟩ (fun w2 hS => (specCountLines_any R C dx dy w2).mono fun e w3 ⟨he, hh⟩ => ⟨_, he, ⟨dirAt_below hS.1 hh, hS.2.trans (hh.mono hS.2.size)⟩, hh, by rw [if_pos HZ.out, ← HNN.out]; rfl⟩),
      obt_makeI hst rfl rfl (srt_j 7 rfl (by kernel_rfl) rfl) (by omega) rfl (fun w2 hS => (Array.getElem?_eq_some_iff.1 hS.1).1) (fun w2 w3 hS hh => ⟨dirAt_below hS.1 hh, hS.2.trans (hh.mono hS.2.size)⟩),
      trivial⟩
  case fin =>
    intro a' w' h1 h2 h3 hS h4 K hK
    obtain ⟨G, hu, hGw, ho⟩ := h4 8 27 rfl (by decide)
    have hv : a'.eval (.tmp 27) = .slice (some ⟨G, 0, none⟩) N N := hu
    refine tail_assign rfl hv ?_ K hK
    have ha : a' = ⟨List.toArray [.slice (some ⟨g, o, none⟩) R cap, .agg #[.int .i64 dx, .int .i64 dy], undef, .pointer (some ⟨w.heap.size, 0, none⟩), .slice none 0 0, a'.tmps.getD 5 undef, undef, undef, undef, undef, undef, .slice (some ⟨g, o, none⟩) R cap, .bool true, .bool false, .bool false, .agg #[.int .i64 dx, .int .i64 dy], .bool true, .bool false, .bool false, a'.tmps.getD 19 undef, a'.tmps.getD 20 undef, a'.tmps.getD 21 undef, a'.tmps.getD 22 undef, a'.tmps.getD 23 undef, a'.tmps.getD 24 undef, a'.tmps.getD 25 undef, a'.tmps.getD 26 undef, a'.tmps.getD 27 undef, undef, undef, undef, undef, undef, undef, undef, undef, undef, undef, undef, undef, undef, undef, undef, undef, undef, undef, undef, undef, undef, undef, undef, undef, undef, undef, undef, undef, undef, undef, undef, undef, undef, undef, undef, undef], []⟩ := frame_eq _ h1 h2 ⟨(h3 0 (by kernel_rfl)), (h3 1 (by kernel_rfl)), (h3 2 (by kernel_rfl)), (h3 3 (by kernel_rfl)), (h3 4 (by kernel_rfl)), rfl, (h3 6 (by kernel_rfl)), (h3 7 (by kernel_rfl)), (h3 8 (by kernel_rfl)), (h3 9 (by kernel_rfl)), (h3 10 (by kernel_rfl)), (h3 11 (by kernel_rfl)), (h3 12 (by kernel_rfl)), (h3 13 (by kernel_rfl)), (h3 14 (by kernel_rfl)), (h3 15 (by kernel_rfl)), (h3 16 (by kernel_rfl)), (h3 17 (by kernel_rfl)), (h3 18 (by kernel_rfl)), rfl, rfl, rfl, rfl, rfl, rfl, rfl, rfl, rfl, (h3 28 (by kernel_rfl)), (h3 29 (by kernel_rfl)), (h3 30 (by kernel_rfl)), (h3 31 (by kernel_rfl)), (h3 32 (by kernel_rfl)), (h3 33 (by kernel_rfl)), (h3 34 (by kernel_rfl)), (h3 35 (by kernel_rfl)), (h3 36 (by kernel_rfl)), (h3 37 (by kernel_rfl)), (h3 38 (by kernel_rfl)), (h3 39 (by kernel_rfl)), (h3 40 (by kernel_rfl)), (h3 41 (by kernel_rfl)), (h3 42 (by kernel_rfl)), (h3 43 (by kernel_rfl)), (h3 44 (by kernel_rfl)), (h3 45 (by kernel_rfl)), (h3 46 (by kernel_rfl)), (h3 47 (by kernel_rfl)), (h3 48 (by kernel_rfl)), (h3 49 (by kernel_rfl)), (h3 50 (by kernel_rfl)), (h3 51 (by kernel_rfl)), (h3 52 (by kernel_rfl)), (h3 53 (by kernel_rfl)), (h3 54 (by kernel_rfl)), (h3 55 (by kernel_rfl)), (h3 56 (by kernel_rfl)), (h3 57 (by kernel_rfl)), (h3 58 (by kernel_rfl)), (h3 59 (by kernel_rfl)), (h3 60 (by kernel_rfl)), (h3 61 (by kernel_rfl)), (h3 62 (by kernel_rfl)), (h3 63 (by kernel_rfl)), trivial⟩
    rw [ha]
    have HO := hide ho; have HG := hide hS.1; have HB := hide hS.2
    have hGs := (ho.lt _ rfl).2
    clear hu ho hv h1 h2 h3 h4 hS hst ha hK
    generalize a'.tmps.getD 5 undef = p5
    generalize a'.tmps.getD 19 undef = p19
    generalize a'.tmps.getD 20 undef = p20
    generalize a'.tmps.getD 21 undef = p21
    generalize a'.tmps.getD 22 undef = p22
    generalize a'.tmps.getD 23 undef = p23
    generalize a'.tmps.getD 24 undef = p24
    generalize a'.tmps.getD 25 undef = p25
    generalize a'.tmps.getD 26 undef = p26
    generalize a'.tmps.getD 27 undef = p27
    go_wp2
    go_loopw [30] (fun i wr => ∃ y : Nat, y ≤ R ∧ i = .int .i64 y ∧ wr.ownsRow G 3 1 (.slice (some ⟨G, 0, none⟩) N N) N (ints (rowF N fun i => sumF (elL C f (dx, dy) i) (C * y))) ∧ Below w.heap.size w wr ∧ DirAt wr w.heap.size dx dy) (fun i _ => R - (intOf i).toNat)
    case atStart =>
      have e : List.replicate N (Value.int .i64 0) = ints (rowF N fun i => sumF (elL C f (dx, dy) i) (C * 0)) := zeros_rowF N
      exact ⟨0, Nat.zero_le _, rfl, by rw [← e]; exact HO.out, HB.out, HG.out⟩
    case round =>
      obtain ⟨y, hy, rfl, ho, hb, hg2⟩ := hrel
      have HO1 := hide ho; have HB1 := hide hb; have HG1 := hide hg2
      have hgw := (ho.lt _ rfl).2
      clear ho hb hg2
      by_cases hly : y < R
      · obtain ⟨g', o', c', hcr, hg', hcell⟩ := HROW.out y hly
        have hcr := below_cell HB1.out hg hcr
        have HCELL := hide hcell
        clear hcell
        go_wp2
        go_loopw [37] (fun i wr => ∃ x : Nat, x ≤ C ∧ i = .int .i64 x ∧ wr.ownsRow G 3 1 (.slice (some ⟨G, 0, none⟩) N N) N (ints (rowF N fun i => sumF (elL C f (dx, dy) i) (C * y + x))) ∧ Below w.heap.size w wr ∧ DirAt wr w.heap.size dx dy) (fun i _ => C - (intOf i).toNat)
        case atStart => exact ⟨0, Nat.zero_le _, rfl, HO1.out, HB1.out, HG1.out⟩
        case round =>
          obtain ⟨x, hx, rfl, ho, hb, hg2⟩ := hrel
          have HO2 := hide ho; have HB2 := hide hb; have HG2 := hide hg2
          have hgw := (ho.lt _ rfl).2
          clear ho hb hg2
          by_cases hlx : x < C
          · have hcx := below_cell HB2.out hg' (HCELL.out x hlx)
            obtain ⟨p1, p2, p3⟩ := lnum_range (rows := R) (cols := C) (y := y) (x := x) HN.out (by omega) (by omega) (by omega) (by omega) (by omega) (by omega) (by omega) (by omega)
            have hlo : lineOf R C dx dy y x = lnum dx dy C y x := by
              rw [lineOf, if_pos ⟨⟨HSO.out, HD.out⟩, ⟨by omega, by omega⟩, by omega, by omega⟩]
            have hkN : lnum dx dy C y x < N := by rw [HNN.out]; unfold countL; omega
            obtain ⟨k, hk⟩ : ∃ k : Nat, (k : Int) = lnum dx dy C y x := ⟨(lnum dx dy C y x).toNat, by omega⟩
            have HLO : Hid (lineOf R C dx dy y x = k) := hide (by rw [hlo, hk])
            have hkN : k < N := by omega
            have hz := HSM.out y x hly hlx
            have HST := hide (fun z hz => elL_step (f := f) hlx (N := N) hk z hz)
            obtain ⟨z, HZ1⟩ : ∃ z, Hid (f y x = z) := ⟨_, hide rfl⟩
            rw [HZ1.out] at hcx
            have hzb : -100 ≤ z ∧ z ≤ 100 := by rw [← HZ1.out]; exact hz
            obtain ⟨hz0, hz1⟩ := hzb
            clear hlo hk hz p1 p2 p3
            go_upto_region 10 with fail
            obtain ⟨fs, hfs⟩ : ∃ fs : List FactP, fs = [isV (.slice (some ⟨g, o, none⟩) R cap), isV (.int .i64 R), isV (.slice (some ⟨g, o, none⟩) R cap), isV (.pointer (some ⟨g, o, none⟩)), isV (.slice (some ⟨g1, o1, none⟩) C k1), isV (.int .i64 C), isV (.agg #[.int .i64 dx, .int .i64 dy]), isV (.int .i64 y), isV (.int .i64 x), isV (.int .i64 k)] := ⟨_, rfl⟩
            have hst : ∀ f ∈ fs, StableP f := by
              rw [hfs]; intro f hf
              simp only [List.mem_cons, List.not_mem_nil, or_false] at hf
              rcases hf with rfl | rfl | rfl | rfl | rfl | rfl | rfl | rfl | rfl | rfl <;> exact stable_v _
            subst hfs
            refine wp_region_tail (S := fun w2 => DirAt w2 w.heap.size dx dy ∧ Below w.heap.size w w2 ∧ w2.ownsRow G 3 1 (.slice (some ⟨G, 0, none⟩) N N) N (ints (rowF N fun i => sumF (elL C f (dx, dy) i) (C * y + x)))) [isV (.slice (some ⟨g, o, none⟩) R cap), isV (.int .i64 R), isV (.slice (some ⟨g, o, none⟩) R cap), isV (.pointer (some ⟨g, o, none⟩)), isV (.slice (some ⟨g1, o1, none⟩) C k1), isV (.int .i64 C), isV (.agg #[.int .i64 dx, .int .i64 dy]), isV (.int .i64 y), isV (.int .i64 x), isV (.int .i64 k)] [(0, .slice (some ⟨g, o, none⟩) R cap), (3, .pointer (some ⟨w.heap.size, 0, none⟩)), (6, .int .i64 y), (8, .int .i64 x)] _ _ 10 (by kernel_rfl) rfl rfl (by kernel_rfl) (by kernel_rfl) rfl (by kernel_rfl) ?base ⟨HG2.out, below_drew HB2.out, HO2.out⟩ ?ob rfl ?fin
            case base =>
              intro t v ht
              simp only [List.lookup_cons, List.lookup_nil] at ht
              repeat' split at ht
              all_goals first | (cases ht; done) | (obtain rfl := Option.some.inj ht; rename_i hh; obtain rfl := eq_of_beq hh; rfl)
            case ob =>
              exact ⟨obt_move (.slice (some ⟨g, o, none⟩) R cap) rfl rfl rfl (srt_b 0 rfl),
                obt_one (.int .i64 R) rfl rfl (srt_j 0 rfl (by kernel_rfl) rfl) (fun ρ w2 hS hx => by go_simp),
                obt_move (.slice (some ⟨g, o, none⟩) R cap) rfl rfl rfl (srt_b 0 rfl),
                obt_two (.pointer (some ⟨g, o, none⟩)) rfl rfl (srt_j 2 rfl (by kernel_rfl) rfl) (srt_c (v := .int .i64 0)) (fun ρ w2 hS hx hy => by go_simp),
                obt_one (.slice (some ⟨g1, o1, none⟩) C k1) rfl rfl (srt_j 3 rfl (by kernel_rfl) rfl) (fun ρ w2 hS hx => by have hc := below_cell hS.2.1 hg HCR.out; go_simp),
                obt_one (.int .i64 C) rfl rfl (srt_j 4 rfl (by kernel_rfl) rfl) (fun ρ w2 hS hx => by go_simp),
                obt_one (.agg #[.int .i64 dx, .int .i64 dy]) rfl rfl (srt_b 3 rfl) (fun ρ w2 hS hx => exec_loadDir rfl hx hS.1),
                obt_move (.int .i64 y) rfl rfl rfl (srt_b 6 rfl),
                obt_move (.int .i64 x) rfl rfl rfl (srt_b 8 rfl),
                obt_call hst [.int .i64 R, .int .i64 C, .agg #[.int .i64 dx, .int .i64 dy], .int .i64 y, .int .i64 x] rfl Try.func64 (by kernel_rfl) (by kernel_rfl) rfl ⟨(srt_j 1 rfl (by kernel_rfl) rfl), (srt_j 5 rfl (by kernel_rfl) rfl), (srt_j 6 rfl (by kernel_rfl) rfl), (srt_j 7 rfl (by kernel_rfl) rfl), (srt_j 8 rfl (by kernel_rfl) rfl), trivial⟩ (fun w2 hS => (specLineOf_any R C dx dy y x w2).mono fun e w3 ⟨he, hh⟩ => ⟨_, he, ⟨dirAt_below hS.1 hh, hS.2.1.trans (hh.mono hS.2.1.size), own_below hS.2.2 hh⟩, hh, by rw [HLO.out]; rfl⟩),
                trivial⟩
            case fin =>
              intro a' w' h1 h2 h3 hS h4 K hK
              have hv : a'.eval (.tmp 51) = .int .i64 k := h4 9 51 rfl (by decide)
              refine tail_assign rfl hv ?_ K hK
              have ha : a' = ⟨List.toArray [.slice (some ⟨g, o, none⟩) R cap, .agg #[.int .i64 dx, .int .i64 dy], undef, .pointer (some ⟨w.heap.size, 0, none⟩), .slice none 0 0, .slice (some ⟨G, 0, none⟩) N N, .int .i64 y, .slice (some ⟨g', o', none⟩) C c', .int .i64 x, .int .i64 z, a'.tmps.getD 10 undef, .slice (some ⟨g, o, none⟩) R cap, .bool true, .bool false, .bool false, .agg #[.int .i64 dx, .int .i64 dy], .bool true, .bool false, .bool false, p19, p20, p21, p22, p23, p24, p25, p26, p27, .slice (some ⟨g, o, none⟩) R cap, .int .i64 R, .int .i64 y, .bool true, .int .i64 y, .pointer (some ⟨g, o + y, none⟩), .slice (some ⟨g', o', none⟩) C c', .slice (some ⟨g', o', none⟩) C c', .int .i64 C, .int .i64 x, .bool true, .int .i64 x, .pointer (some ⟨g', o' + x, none⟩), .int .i64 z, a'.tmps.getD 42 undef, a'.tmps.getD 43 undef, a'.tmps.getD 44 undef, a'.tmps.getD 45 undef, a'.tmps.getD 46 undef, a'.tmps.getD 47 undef, a'.tmps.getD 48 undef, a'.tmps.getD 49 undef, a'.tmps.getD 50 undef, a'.tmps.getD 51 undef, u52, u53, u54, u55, u56, u57, u58, u59, u60, u61, u62, undef], []⟩ := frame_eq _ h1 h2 ⟨(h3 0 (by kernel_rfl)), (h3 1 (by kernel_rfl)), (h3 2 (by kernel_rfl)), (h3 3 (by kernel_rfl)), (h3 4 (by kernel_rfl)), (h3 5 (by kernel_rfl)), (h3 6 (by kernel_rfl)), (h3 7 (by kernel_rfl)), (h3 8 (by kernel_rfl)), (h3 9 (by kernel_rfl)), rfl, (h3 11 (by kernel_rfl)), (h3 12 (by kernel_rfl)), (h3 13 (by kernel_rfl)), (h3 14 (by kernel_rfl)), (h3 15 (by kernel_rfl)), (h3 16 (by kernel_rfl)), (h3 17 (by kernel_rfl)), (h3 18 (by kernel_rfl)), (h3 19 (by kernel_rfl)), (h3 20 (by kernel_rfl)), (h3 21 (by kernel_rfl)), (h3 22 (by kernel_rfl)), (h3 23 (by kernel_rfl)), (h3 24 (by kernel_rfl)), (h3 25 (by kernel_rfl)), (h3 26 (by kernel_rfl)), (h3 27 (by kernel_rfl)), (h3 28 (by kernel_rfl)), (h3 29 (by kernel_rfl)), (h3 30 (by kernel_rfl)), (h3 31 (by kernel_rfl)), (h3 32 (by kernel_rfl)), (h3 33 (by kernel_rfl)), (h3 34 (by kernel_rfl)), (h3 35 (by kernel_rfl)), (h3 36 (by kernel_rfl)), (h3 37 (by kernel_rfl)), (h3 38 (by kernel_rfl)), (h3 39 (by kernel_rfl)), (h3 40 (by kernel_rfl)), (h3 41 (by kernel_rfl)), rfl, rfl, rfl, rfl, rfl, rfl, rfl, rfl, rfl, rfl, (h3 52 (by kernel_rfl)), (h3 53 (by kernel_rfl)), (h3 54 (by kernel_rfl)), (h3 55 (by kernel_rfl)), (h3 56 (by kernel_rfl)), (h3 57 (by kernel_rfl)), (h3 58 (by kernel_rfl)), (h3 59 (by kernel_rfl)), (h3 60 (by kernel_rfl)), (h3 61 (by kernel_rfl)), (h3 62 (by kernel_rfl)), (h3 63 (by kernel_rfl)), trivial⟩
              rw [ha]
              have HO3 := hide hS.2.2; have HB3 := hide hS.2.1; have HG3 := hide hS.1
              have hcl := cell_held hS.2.2 hkN
              have hfz := hS.2.2.frozenAt k
              have hcv : (ints (rowF N fun i => sumF (elL C f (dx, dy) i) (C * y + x))).getD k undef = .int .i64 (sumF (elL C f (dx, dy) k) (C * y + x)) := by
                rw [List.getD_eq_getElem?_getD, ints_at _ k (by rw [rowF_len]; exact hkN), rowF_at]; rfl
              rw [hcv] at hcl
              obtain ⟨q, HQ⟩ : ∃ q : Int, Hid (sumF (elL C f (dx, dy) k) (C * y + x) = q) := ⟨_, hide rfl⟩
              have hqb : -2500 ≤ q ∧ q ≤ 2500 := by
                have h0 : C * y + x ≤ R * C := by
                  have : C * (y + 1) ≤ C * R := Nat.mul_le_mul (Nat.le_refl _) hly
                  rw [Nat.mul_comm C R, Nat.mul_succ] at this; omega
                have h2 : R * C ≤ 5 * 5 := Nat.mul_le_mul r2 c2
                have h3 := lineE_range HSM.out (dx, dy) h0 ⟨dx, dy, k⟩
                have h4 : lineE C f (dx, dy) (C * y + x) ⟨dx, dy, k⟩ = sumF (elL C f (dx, dy) k) (C * y + x) := if_pos ⟨rfl, rfl⟩
                rw [h4] at h3
                rw [← HQ.out]; omega
              obtain ⟨hq1, hq2⟩ := hqb
              rw [HQ.out] at hcl
              have hgw3 := (hS.2.2.lt _ rfl).2
              clear hcv hv h1 h2 h3 h4 hS hst ha hK
              generalize a'.tmps.getD 10 undef = q10
              generalize a'.tmps.getD 42 undef = q42
              generalize a'.tmps.getD 43 undef = q43
              generalize a'.tmps.getD 44 undef = q44
              generalize a'.tmps.getD 45 undef = q45
              generalize a'.tmps.getD 46 undef = q46
              generalize a'.tmps.getD 47 undef = q47
              generalize a'.tmps.getD 48 undef = q48
              generalize a'.tmps.getD 49 undef = q49
              generalize a'.tmps.getD 50 undef = q50
              generalize a'.tmps.getD 51 undef = q51
              obtain ⟨s1, s2⟩ := HO3.out.stored k (.int .i64 (q + z))
              have s2' : w'.grownBy (w'.setCell ⟨G, k, none⟩ (.int .i64 (q + z))) (some G) := s2
              have HS1 : Hid ((w'.setCell ⟨G, k, none⟩ (.int .i64 (q + z))).ownsRow G 3 1 (.slice (some ⟨G, 0, none⟩) N N) N (ints (rowF N fun i => sumF (elL C f (dx, dy) i) (C * y + (x + 1))))) := hide (by
                rw [ints_set, rowF_set] at s1
                rw [← HST.out z HZ1.out, HQ.out]; exact s1)
              have HS2 := hide (HB3.out.trans (grown_below s2' (fun k hk => by cases hk; omega) HB3.out.size))
              have HS3 : Hid (DirAt (w'.setCell ⟨G, k, none⟩ (.int .i64 (q + z))) w.heap.size dx dy) := hide (by
                unfold DirAt; rw [s2'.block _ (Array.getElem?_eq_some_iff.1 HG3.out).1 (by simp; omega)]; exact HG3.out)
              clear s1 s2 s2'
              go_wp2
              go_roundw
              case rel => exact ⟨x + 1, by omega, by go_num, HS1.out, HS2.out, HS3.out⟩
              case measure => simp [intOf]; omega
          · obtain rfl : x = C := by omega
            go_wp2
            go_roundw
            case rel => exact ⟨y + 1, by omega, by go_num, by rw [Nat.mul_succ]; exact HO2.out, HB2.out, HG2.out⟩
            case measure => simp [intOf]; omega
      · obtain rfl : y = R := by omega
        go_wp2
        go_ret
        refine ⟨_, rfl, ?_, HB1.out⟩
        have e : lineRowE y C f dx dy N = rowF N fun i => sumF (elL C f (dx, dy) i) (C * y) := by rw [lineRowE, Nat.mul_comm]
        rw [e, rowF_len]
        exact own_base HO1.out (by omega)

theorem specGridSums_any (v : Value) (m : List (List Int)) (dx dy : Int) (w : World) (hin : InMat w v m) :
    Calls Try.prog 20 #[v, .agg #[.int .i64 dx, .int .i64 dy]] w (IntsRes (gsL m dx dy) w) := by
  cases h : gridOkB m with
  | false =>
    have e : gsL m dx dy = [] := by rw [gsL, h]; rfl
    rw [e]; exact specGridSums_no v m dx dy w hin h
  | true =>
    cases hd : dirOk dx dy with
    | false =>
      have e : gsL m dx dy = [] := by rw [gsL, h, hd]; rfl
      rw [e]; exact specGridSums_dir v m dx dy w hin h hd
    | true =>
      have hg : gridB m = true := by unfold gridOkB at h; rw [Bool.and_eq_true] at h; exact h.1
      have he : (m.all fun r => within r 100) = true := by unfold gridOkB at h; rw [Bool.and_eq_true] at h; exact h.2
      obtain ⟨hm, hR, hC⟩ := gridB_mk hg
      obtain ⟨N, hN, hN2⟩ := countL_size (near_of hd) hR hC
      have e : gsL m dx dy = lineRowE m.length (widthM m) (elM m) dx dy N := by rw [gsL, h, hd, ← hN]; simp
      rw [e]
      exact specGridSums_yes v m.length (widthM m) N (elM m) dx dy w (by rw [← hm]; exact hin) hR hC (gridOk_small (by rw [← hm]; exact he)) (by rw [← hm]; exact h) hd hN hN2
end Go.Proofs.Ytiajdmoppgpgnaa
/-
  The exact law on GridSums, walked.
-/
namespace Go.Proofs.Ytiajdmoppgpgnaa
open Go.RowKit
set_option linter.unusedVariables false

theorem exec_loadLDir {ρ : Operand → Value} {o : Oper} {w : World} {x : Operand} {g : Nat} {dx dy : Int} (ho : o.op = .load 31 x) (hx : ρ x = .pointer (some ⟨g, 0, none⟩)) (hd : LDirAt w g dx dy) :
    (execOp ρ o).run Try.prog w = .ok (.value (.agg #[.int .i64 dx, .int .i64 dy])) w := by
  unfold execOp
  simp only [ho, hx, Instr.loadAt, Instr.sureAddr, Sem.run_bind, Sem.run_pure, Result.andThen_ok, run_loadVar_row w g _ _ _ _ _ hd Try.underlying31 rfl Try.sizeLDir]
theorem ldir_block {w w' : World} {g : Nat} {dx dy : Int} (h : LDirAt w g dx dy) (e : w'.heap[g]? = w.heap[g]?) : LDirAt w' g dx dy := e.trans h
def inM' (m : List (List Int)) : FactP := fun u w => InMat w u m
theorem stable_m (m : List (List Int)) : StableP (inM' m) := fun _ _ _ hb h => inMat_below h hb
def ownI (B : Nat) (rows : List Int) : FactP := fun u w => w.ownsRow B 3 1 u rows.length (ints rows)
theorem stable_o (B : Nat) (rows : List Int) : StableP (ownI B rows) := fun _ _ _ hb h => own_below h hb

set_option maxRecDepth 100000 in
set_option maxHeartbeats 4000000 in
theorem lawGridSums_gen (a : Option Addr) (n c : Nat) (m : List (List Int)) (dx dy : Int) (w : World) (hin : InMat w (.slice a n c) m) (rows : List Int) (hrows : rows.length ≤ 1000000)
    (hs : ∀ v w, InMat w v m → Calls Try.prog 20 #[v, .agg #[.int .i64 dx, .int .i64 dy]] w (IntsRes rows w))
    (hi : ∀ v w, InMat w v m → Calls Try.prog 23 #[v, .agg #[.int .i64 dx, .int .i64 dy]] w (IntsRes rows w)) :
    Calls Try.prog 4 #[.slice a n c, .agg #[.int .i64 dx, .int .i64 dy]] w fun e w' => e = .returned (.bool true) ∧ Below w.heap.size w w' := by
  have hb0 := (Below.refl w.heap.size w).alloc (Nat.le_refl _) (.cells #[.int .i64 dx, .int .i64 dy] 31)
  have HI := hide hin; have HI0 := hide (inMat_below hin hb0); have HS := hide hs; have HM := hide hi
  have HB0 := hide hb0
  have HD0 := hide (show LDirAt (w.alloc (.cells #[.int .i64 dx, .int .i64 dy] 31)) w.heap.size dx dy from heap_alloc_new w _)
  clear hin hs hi hb0
  go_enter Try.func4, Try.ntmps4
  go_wp2_with fail
  refine (szIntSS_any _ m 1048576 _ (by omega) HI0.out).mono ?_
  rintro e w1 ⟨r, rfl, hr, hb1⟩
  have HB1 := hide (HB0.out.trans (hb1.mono HB0.out.size)); have HD1 := hide (ldirAt_below HD0.out hb1)
  clear hb1
  rcases hr with rfl | ⟨hsz, rfl⟩
  · go_wp2
    go_ret
    exact ⟨rfl, HB1.out⟩
  · go_upto_region 5 with fail
    obtain ⟨fs, hfs⟩ : ∃ fs : List FactP, fs = [isV (.slice a n c), inM' m, isV (.agg #[.int .i64 dx, .int .i64 dy]), isV (.agg #[.int .i64 dx, .int .i64 dy]), ownI w1.heap.size rows] := ⟨_, rfl⟩
    have hst : ∀ f ∈ fs, StableP f := by
      rw [hfs]; intro f hf
      simp only [List.mem_cons, List.not_mem_nil, or_false] at hf
      rcases hf with rfl | rfl | rfl | rfl | rfl <;> first | exact stable_v _ | exact stable_m _ | exact stable_o _ _
    subst hfs
    refine wp_region_tail (S := fun w2 => LDirAt w2 w.heap.size dx dy ∧ Below w1.heap.size w1 w2) [isV (.slice a n c), inM' m, isV (.agg #[.int .i64 dx, .int .i64 dy]), isV (.agg #[.int .i64 dx, .int .i64 dy]), ownI w1.heap.size rows] [(0, .slice a n c), (3, .pointer (some ⟨w.heap.size, 0, none⟩))] _ _ 5 (by kernel_rfl) rfl rfl (by kernel_rfl) (by kernel_rfl) rfl (by kernel_rfl) ?base ⟨HD1.out, below_drew (Below.refl _ _)⟩ ?ob rfl ?fin
    case base =>
      intro t v ht
      simp only [List.lookup_cons, List.lookup_nil] at ht
      repeat' split at ht
      all_goals first | (cases ht; done) | (obtain rfl := Option.some.inj ht; rename_i hh; obtain rfl := eq_of_beq hh; rfl)
    case ob =>
      exact ⟨obt_move (.slice a n c) rfl rfl rfl (srt_b 0 rfl),
        obt_call hst [.slice a n c] rfl Try.func21 (by kernel_rfl) (by kernel_rfl) rfl ⟨(srt_j 0 rfl (by kernel_rfl) rfl), trivial⟩ (fun w2 hS => (toIntSS_any _ m _ (by omega) (inMat_below HI.out (HB1.out.trans (hS.2.mono HB1.out.size)))).mono fun e w3 ⟨u, he, ho, hh⟩ => ⟨_, he, ⟨ldirAt_below hS.1 hh, hS.2.trans (hh.mono hS.2.size)⟩, hh, inMat_own ho⟩),
        obt_one (.agg #[.int .i64 dx, .int .i64 dy]) rfl rfl (srt_b 3 rfl) (fun ρ w2 hS hx => exec_loadLDir rfl hx hS.1),
        obt_call hst [.agg #[.int .i64 dx, .int .i64 dy]] rfl Try.func22 (by kernel_rfl) (by kernel_rfl) rfl ⟨(srt_j 2 rfl (by kernel_rfl) rfl), trivial⟩ (fun w2 hS => (toDirection_any dx dy _).mono fun e w3 ⟨he, hh⟩ => ⟨_, he, ⟨ldirAt_below hS.1 hh, hS.2.trans (hh.mono hS.2.size)⟩, hh, rfl⟩),
        obt_call_l hst 1 rfl Try.func20 (by kernel_rfl) (by kernel_rfl) rfl rfl (by kernel_rfl) (srt_j 3 rfl (by kernel_rfl) rfl) (fun v w2 hS hf => (HS.out v _ hf).mono fun e w3 ⟨u, he, ho, hh⟩ => ⟨_, he, ⟨ldirAt_below hS.1 hh, hS.2.trans (hh.mono hS.2.size)⟩, hh, own_base ho hS.2.size⟩),
        trivial⟩
    case fin =>
      intro a' w' h1 h2 h3 hS h4 K hK
      obtain ⟨u0, HU⟩ : ∃ u, Hid (a'.eval (.tmp 22) = u) := ⟨_, hide rfl⟩
      have HO := hide (h4 4 22 rfl (by decide))
      refine tail_assign rfl HU.out ?_ K hK
      have ha : a' = ⟨List.toArray [.slice a n c, .agg #[.int .i64 dx, .int .i64 dy], undef, .pointer (some ⟨w.heap.size, 0, none⟩), .bool false, .int .i64 (1048576 - m.length - cellsM m : Nat), a'.tmps.getD 6 undef, undef, undef, undef, undef, undef, undef, .slice a n c, .int .i64 1048576, .int .i64 (1048576 - m.length - cellsM m : Nat), .int .i64 (1048576 - m.length - cellsM m : Nat), .bool (decide (((1048576 - m.length - cellsM m : Nat) : Int) < 0)), a'.tmps.getD 18 undef, a'.tmps.getD 19 undef, a'.tmps.getD 20 undef, a'.tmps.getD 21 undef, a'.tmps.getD 22 undef, undef, undef, undef, undef, undef, undef, undef, undef, undef, undef, undef, undef, undef, undef, undef, undef, undef, undef, undef, undef, undef, undef, undef, undef, undef, undef, undef, undef, undef, undef, undef, undef, undef, undef, undef, undef, undef, undef, undef, undef, undef, undef, undef, undef, undef, undef, undef, undef, undef, undef, undef, undef, undef, undef], []⟩ := frame_eq _ h1 h2 ⟨(h3 0 (by kernel_rfl)), (h3 1 (by kernel_rfl)), (h3 2 (by kernel_rfl)), (h3 3 (by kernel_rfl)), (h3 4 (by kernel_rfl)), (h3 5 (by kernel_rfl)), rfl, (h3 7 (by kernel_rfl)), (h3 8 (by kernel_rfl)), (h3 9 (by kernel_rfl)), (h3 10 (by kernel_rfl)), (h3 11 (by kernel_rfl)), (h3 12 (by kernel_rfl)), (h3 13 (by kernel_rfl)), (h3 14 (by kernel_rfl)), (h3 15 (by kernel_rfl)), (h3 16 (by kernel_rfl)), (h3 17 (by kernel_rfl)), rfl, rfl, rfl, rfl, rfl, (h3 23 (by kernel_rfl)), (h3 24 (by kernel_rfl)), (h3 25 (by kernel_rfl)), (h3 26 (by kernel_rfl)), (h3 27 (by kernel_rfl)), (h3 28 (by kernel_rfl)), (h3 29 (by kernel_rfl)), (h3 30 (by kernel_rfl)), (h3 31 (by kernel_rfl)), (h3 32 (by kernel_rfl)), (h3 33 (by kernel_rfl)), (h3 34 (by kernel_rfl)), (h3 35 (by kernel_rfl)), (h3 36 (by kernel_rfl)), (h3 37 (by kernel_rfl)), (h3 38 (by kernel_rfl)), (h3 39 (by kernel_rfl)), (h3 40 (by kernel_rfl)), (h3 41 (by kernel_rfl)), (h3 42 (by kernel_rfl)), (h3 43 (by kernel_rfl)), (h3 44 (by kernel_rfl)), (h3 45 (by kernel_rfl)), (h3 46 (by kernel_rfl)), (h3 47 (by kernel_rfl)), (h3 48 (by kernel_rfl)), (h3 49 (by kernel_rfl)), (h3 50 (by kernel_rfl)), (h3 51 (by kernel_rfl)), (h3 52 (by kernel_rfl)), (h3 53 (by kernel_rfl)), (h3 54 (by kernel_rfl)), (h3 55 (by kernel_rfl)), (h3 56 (by kernel_rfl)), (h3 57 (by kernel_rfl)), (h3 58 (by kernel_rfl)), (h3 59 (by kernel_rfl)), (h3 60 (by kernel_rfl)), (h3 61 (by kernel_rfl)), (h3 62 (by kernel_rfl)), (h3 63 (by kernel_rfl)), (h3 64 (by kernel_rfl)), (h3 65 (by kernel_rfl)), (h3 66 (by kernel_rfl)), (h3 67 (by kernel_rfl)), (h3 68 (by kernel_rfl)), (h3 69 (by kernel_rfl)), (h3 70 (by kernel_rfl)), (h3 71 (by kernel_rfl)), (h3 72 (by kernel_rfl)), (h3 73 (by kernel_rfl)), (h3 74 (by kernel_rfl)), (h3 75 (by kernel_rfl)), (h3 76 (by kernel_rfl)), trivial⟩
      rw [ha]
      have HU0 : Hid (w'.ownsRow w1.heap.size 3 1 u0 rows.length (ints rows)) := hide (by rw [← HU.out]; exact HO.out)
      have HUL := hide (fun k e => (HU0.out.lt k e).2)
      have HB3 := hide (HB1.out.trans (hS.2.mono HB1.out.size)); have HD3 := hide hS.1
      have hdl := (Array.getElem?_eq_some_iff.1 HD3.out).1
      obtain ⟨w3, hw3⟩ : ∃ w3, w3 = w' := ⟨_, rfl⟩
      rw [← hw3] at HU0 HUL HB3 HD3 hdl ⊢
      clear hw3 HU HO h1 h2 h3 h4 hS hst ha hK
      generalize a'.tmps.getD 6 undef = p6
      generalize a'.tmps.getD 18 undef = p18
      generalize a'.tmps.getD 19 undef = p19
      generalize a'.tmps.getD 20 undef = p20
      generalize a'.tmps.getD 21 undef = p21
      generalize a'.tmps.getD 22 undef = p22
      go_wp2_with fail
      refine (toIntSS_any _ m _ (by omega) (inMat_below HI.out HB3.out)).mono ?_
      rintro e w4 ⟨v4, rfl, ho4, hb4⟩
      have HO4 := hide ho4; have HU1 := hide (own_below HU0.out hb4); have HB4 := hide (HB3.out.trans (hb4.mono HB3.out.size)); have HD4 := hide (ldirAt_below HD3.out hb4); have hs4 := hb4.size; clear ho4 hb4
      go_wp2_with (with_reducible refine wpList_loadLDir HD4.out rfl _ rfl rfl ?_)
      refine (toDirection_any dx dy _).mono ?_
      rintro e w40 ⟨rfl, hb40⟩
      have HO40 := hide (ownMat_below HO4.out hb40); have HU40 := hide (own_below HU1.out hb40); have HB40 := hide (HB4.out.trans (hb40.mono HB4.out.size)); have HD40 := hide (ldirAt_below HD4.out hb40); have hs40 := hb40.size; clear hb40
      go_wp2_with fail
      refine (HM.out v4 _ (inMat_own HO40.out)).mono ?_
      rintro e w5 ⟨g0, rfl, ho5, hb5⟩
      have HG0 := hide (own_base (base' := w4.heap.size) ho5 hs40); have HO5 := hide (ownMat_below HO40.out hb5); have HU2 := hide (own_below HU40.out hb5); have HB5 := hide (HB40.out.trans (hb5.mono HB40.out.size)); have HD5 := hide (ldirAt_below HD40.out hb5)
      have hs5 := hb5.size; clear ho5 hb5
      go_wp2_with fail
      refine (eqIntS_same g0 u0 rows _ (inRow_own HG0.out) (inRow_own HU2.out)).mono ?_
      rintro e w6 ⟨rfl, hb6⟩
      have HD6 := hide (ldirAt_below HD5.out hb6); have HG1 := hide (own_below HG0.out hb6); have HO6 := hide (ownMat_below HO5.out hb6); have HU3 := hide (own_below HU2.out hb6); have HB6 := hide (HB5.out.trans (hb6.mono HB5.out.size))
      have hs6 := hb6.size; clear hb6
      go_wp2_with fail
      refine (toIntSS_any _ m _ (by omega) (inMat_below HI.out HB6.out)).mono ?_
      rintro e w7 ⟨v7, rfl, ho7, hb7⟩
      have HD7 := hide (ldirAt_below HD6.out hb7); have HV7 := hide ho7; have HG2 := hide (own_below HG1.out hb7); have HO7 := hide (ownMat_below HO6.out hb7); have HU4 := hide (own_below HU3.out hb7); have HB7 := hide (HB6.out.trans (hb7.mono HB6.out.size))
      have hs7 := hb7.size; clear ho7 hb7
      go_wp2_with fail
      refine (eqIntSS_same v4 v7 m _ (inMat_own HO7.out) (inMat_own HV7.out)).mono ?_
      rintro e w8 ⟨rfl, hb8⟩
      have HD8 := hide (ldirAt_below HD7.out hb8); have HG3 := hide (own_below HG2.out hb8); have HO8 := hide (ownMat_below HO7.out hb8); have HU5 := hide (own_below HU4.out hb8); have HB8 := hide (HB7.out.trans (hb8.mono HB7.out.size))
      have hs8 := hb8.size; clear hb8
      go_wp2_with fail
      refine (markIntSS_any m 1 _ _ v4 _ (by omega) (by omega) HO8.out).mono ?_
      rintro e w9 ⟨rfl, -, hw9⟩
      have HG4 := hide (own_within HG3.out hw9 (fun k e => .inr (HG3.out.lt k e).1)); have HU6 := hide (own_within HU5.out hw9 (fun k e => .inl (HUL.out k e))); have HB9 := hide (HB8.out.trans (below_within hw9 HB3.out.size HB8.out.size))
      have HD9 : Hid (LDirAt _ _ dx dy) := hide (ldir_block HD8.out (hw9.block _ (Array.getElem?_eq_some_iff.1 HD8.out).1 (.inl hdl)))
      have hs9 := hw9.size; clear hw9
      go_wp2_with fail
      refine (eqIntS_same g0 u0 rows _ (inRow_own HG4.out) (inRow_own HU6.out)).mono ?_
      rintro e w10 ⟨rfl, hb10⟩
      have HD10 := hide (ldirAt_below HD9.out hb10); have HG5 := hide (own_below HG4.out hb10); have HU7 := hide (own_below HU6.out hb10); have HB10 := hide (HB9.out.trans (hb10.mono HB9.out.size))
      have hs10 := hb10.size; clear hb10
      go_wp2_with fail
      refine (markIntS_any rows.length 1 g0 _ _ _ (by omega) (by omega) HG5.out).mono ?_
      rintro e w11 ⟨rfl, ho11, hg11⟩
      have HNE : Hid (u0.ownBlock = none ∨ u0.ownBlock ≠ g0.ownBlock) := hide (by
        cases e0 : u0.ownBlock with
        | none => exact .inl rfl
        | some k =>
          refine .inr fun e1 => ?_
          have q1 := HUL.out k e0
          have q2 := (HG5.out.lt k e1.symm).1
          omega)
      have HG6 := hide (inRow_own (r := markR rows.length 1) (by rw [markR_len]; exact ho11)); have HU8 := hide (HU7.out.kept hg11 HNE.out)
      have HB11 := hide (HB10.out.trans (grown_below hg11 (fun k hk => by have := (HG5.out.lt k hk).1; have := HB4.out.size; omega) HB10.out.size))
      have HD11 : Hid (LDirAt _ _ dx dy) := hide (ldir_block HD10.out (hg11.block _ (Array.getElem?_eq_some_iff.1 HD10.out).1 (fun e => by have := (HG5.out.lt _ e.symm).1; omega)))
      clear ho11 hg11
      go_wp2_with fail
      refine (heldIntS_any rows.length 1 g0 _ (by omega) (by omega) HG6.out).mono ?_
      rintro e w12 ⟨rfl, hb12⟩
      have HD12 := hide (ldirAt_below HD11.out hb12); have HG7 := hide (inRow_below HG6.out hb12); have HU9 := hide (own_below HU8.out hb12); have HB12 := hide (HB11.out.trans (hb12.mono HB11.out.size))
      clear hb12
      go_upto_region 24 with fail
      obtain ⟨fs, hfs⟩ : ∃ fs : List FactP, fs = [isV (.slice a n c), inM' m, isV (.agg #[.int .i64 dx, .int .i64 dy]), isV (.agg #[.int .i64 dx, .int .i64 dy]), ownI w12.heap.size rows] := ⟨_, rfl⟩
      have hst : ∀ f ∈ fs, StableP f := by
        rw [hfs]; intro f hf
        simp only [List.mem_cons, List.not_mem_nil, or_false] at hf
        rcases hf with rfl | rfl | rfl | rfl | rfl <;> first | exact stable_v _ | exact stable_m _ | exact stable_o _ _
      subst hfs
      refine wp_region_tail (S := fun w2 => LDirAt w2 w.heap.size dx dy ∧ Below w12.heap.size w12 w2) [isV (.slice a n c), inM' m, isV (.agg #[.int .i64 dx, .int .i64 dy]), isV (.agg #[.int .i64 dx, .int .i64 dy]), ownI w12.heap.size rows] [(0, .slice a n c), (3, .pointer (some ⟨w.heap.size, 0, none⟩))] _ _ 5 (by kernel_rfl) rfl rfl (by kernel_rfl) (by kernel_rfl) rfl (by kernel_rfl) ?base ⟨HD12.out, below_drew (Below.refl _ _)⟩ ?ob rfl ?fin
      case base =>
        intro t v ht
        simp only [List.lookup_cons, List.lookup_nil] at ht
        repeat' split at ht
        all_goals first | (cases ht; done) | (obtain rfl := Option.some.inj ht; rename_i hh; obtain rfl := eq_of_beq hh; rfl)
      case ob =>
        exact ⟨obt_move (.slice a n c) rfl rfl rfl (srt_b 0 rfl),
          obt_call hst [.slice a n c] rfl Try.func21 (by kernel_rfl) (by kernel_rfl) rfl ⟨(srt_j 0 rfl (by kernel_rfl) rfl), trivial⟩ (fun w2 hS => (toIntSS_any _ m _ (by omega) (inMat_below HI.out (HB12.out.trans (hS.2.mono HB12.out.size)))).mono fun e w3 ⟨u, he, ho, hh⟩ => ⟨_, he, ⟨ldirAt_below hS.1 hh, hS.2.trans (hh.mono hS.2.size)⟩, hh, inMat_own ho⟩),
          obt_one (.agg #[.int .i64 dx, .int .i64 dy]) rfl rfl (srt_b 3 rfl) (fun ρ w2 hS hx => exec_loadLDir rfl hx hS.1),
          obt_call hst [.agg #[.int .i64 dx, .int .i64 dy]] rfl Try.func22 (by kernel_rfl) (by kernel_rfl) rfl ⟨(srt_j 2 rfl (by kernel_rfl) rfl), trivial⟩ (fun w2 hS => (toDirection_any dx dy _).mono fun e w3 ⟨he, hh⟩ => ⟨_, he, ⟨ldirAt_below hS.1 hh, hS.2.trans (hh.mono hS.2.size)⟩, hh, rfl⟩),
          obt_call_l hst 1 rfl Try.func23 (by kernel_rfl) (by kernel_rfl) rfl rfl (by kernel_rfl) (srt_j 3 rfl (by kernel_rfl) rfl) (fun v w2 hS hf => (HM.out v _ hf).mono fun e w3 ⟨u, he, ho, hh⟩ => ⟨_, he, ⟨ldirAt_below hS.1 hh, hS.2.trans (hh.mono hS.2.size)⟩, hh, own_base ho hS.2.size⟩),
          trivial⟩
      case fin =>
        intro a' w' h1 h2 h3 hS h4 K hK
        obtain ⟨h0, HU⟩ : ∃ u, Hid (a'.eval (.tmp 64) = u) := ⟨_, hide rfl⟩
        have HO := hide (h4 4 64 rfl (by decide))
        refine tail_assign rfl HU.out ?_ K hK
        have ha : a' = ⟨List.toArray [.slice a n c, .agg #[.int .i64 dx, .int .i64 dy], undef, .pointer (some ⟨w.heap.size, 0, none⟩), .bool false, .int .i64 (1048576 - m.length - cellsM m : Nat), u0, v4, g0, .int .i64 (1 + (cellsM m : Nat)), .int .i64 (1 + (rows.length : Nat)), .int .i64 (1 + (rows.length : Nat)), a'.tmps.getD 12 undef, .slice a n c, .int .i64 1048576, .int .i64 (1048576 - m.length - cellsM m : Nat), .int .i64 (1048576 - m.length - cellsM m : Nat), .bool (decide (((1048576 - m.length - cellsM m : Nat) : Int) < 0)), p18, p19, p20, p21, p22, .slice a n c, v4, v4, .agg #[.int .i64 dx, .int .i64 dy], .agg #[.int .i64 dx, .int .i64 dy], g0, g0, u0, .bool true, .bool false, v4, .slice a n c, v7, .bool true, .bool false, v4, .int .i64 1, .int .i64 (1 + (cellsM m : Nat)), .int .i64 (1 + (cellsM m : Nat)), .bool (decide ((1 + (cellsM m : Nat) : Int) < 0)), .bool (decide ((1 + (cellsM m : Nat) : Int) < 0)), g0, u0, .bool true, .bool false, .bool (decide ((1 + (cellsM m : Nat) : Int) < 0)), g0, .int .i64 1, .int .i64 (1 + (rows.length : Nat)), g0, .int .i64 1, .int .i64 (1 + (rows.length : Nat)), .int .i64 (1 + (rows.length : Nat)), .bool (decide ((1 + (rows.length : Nat) : Int) < 0)), .int .i64 (1 + (rows.length : Nat)), .int .i64 (1 + (rows.length : Nat)), .bool false, a'.tmps.getD 60 undef, a'.tmps.getD 61 undef, a'.tmps.getD 62 undef, a'.tmps.getD 63 undef, a'.tmps.getD 64 undef, undef, undef, undef, undef, undef, undef, undef, undef, undef, undef, undef, undef], []⟩ := frame_eq _ h1 h2 ⟨(h3 0 (by kernel_rfl)), (h3 1 (by kernel_rfl)), (h3 2 (by kernel_rfl)), (h3 3 (by kernel_rfl)), (h3 4 (by kernel_rfl)), (h3 5 (by kernel_rfl)), (h3 6 (by kernel_rfl)), (h3 7 (by kernel_rfl)), (h3 8 (by kernel_rfl)), (h3 9 (by kernel_rfl)), (h3 10 (by kernel_rfl)), (h3 11 (by kernel_rfl)), rfl, (h3 13 (by kernel_rfl)), (h3 14 (by kernel_rfl)), (h3 15 (by kernel_rfl)), (h3 16 (by kernel_rfl)), (h3 17 (by kernel_rfl)), (h3 18 (by kernel_rfl)), (h3 19 (by kernel_rfl)), (h3 20 (by kernel_rfl)), (h3 21 (by kernel_rfl)), (h3 22 (by kernel_rfl)), (h3 23 (by kernel_rfl)), (h3 24 (by kernel_rfl)), (h3 25 (by kernel_rfl)), (h3 26 (by kernel_rfl)), (h3 27 (by kernel_rfl)), (h3 28 (by kernel_rfl)), (h3 29 (by kernel_rfl)), (h3 30 (by kernel_rfl)), (h3 31 (by kernel_rfl)), (h3 32 (by kernel_rfl)), (h3 33 (by kernel_rfl)), (h3 34 (by kernel_rfl)), (h3 35 (by kernel_rfl)), (h3 36 (by kernel_rfl)), (h3 37 (by kernel_rfl)), (h3 38 (by kernel_rfl)), (h3 39 (by kernel_rfl)), (h3 40 (by kernel_rfl)), (h3 41 (by kernel_rfl)), (h3 42 (by kernel_rfl)), (h3 43 (by kernel_rfl)), (h3 44 (by kernel_rfl)), (h3 45 (by kernel_rfl)), (h3 46 (by kernel_rfl)), (h3 47 (by kernel_rfl)), (h3 48 (by kernel_rfl)), (h3 49 (by kernel_rfl)), (h3 50 (by kernel_rfl)), (h3 51 (by kernel_rfl)), (h3 52 (by kernel_rfl)), (h3 53 (by kernel_rfl)), (h3 54 (by kernel_rfl)), (h3 55 (by kernel_rfl)), (h3 56 (by kernel_rfl)), (h3 57 (by kernel_rfl)), (h3 58 (by kernel_rfl)), (h3 59 (by kernel_rfl)), rfl, rfl, rfl, rfl, rfl, (h3 65 (by kernel_rfl)), (h3 66 (by kernel_rfl)), (h3 67 (by kernel_rfl)), (h3 68 (by kernel_rfl)), (h3 69 (by kernel_rfl)), (h3 70 (by kernel_rfl)), (h3 71 (by kernel_rfl)), (h3 72 (by kernel_rfl)), (h3 73 (by kernel_rfl)), (h3 74 (by kernel_rfl)), (h3 75 (by kernel_rfl)), (h3 76 (by kernel_rfl)), trivial⟩
        rw [ha]
        have HH : Hid (w'.ownsRow w12.heap.size 3 1 h0 rows.length (ints rows)) := hide (by rw [← HU.out]; exact HO.out)
        have HB14 := hide (HB12.out.trans (hS.2.mono HB12.out.size))
        have HG9 := hide (inRow_below HG7.out hS.2); have HU11 := hide (own_below HU9.out hS.2)
        obtain ⟨w14, hw14⟩ : ∃ w14, w14 = w' := ⟨_, rfl⟩
        rw [← hw14] at HH HB14 HG9 HU11 ⊢
        clear hw14 HU HO h1 h2 h3 h4 hS hst ha hK
        generalize a'.tmps.getD 12 undef = q12
        generalize a'.tmps.getD 60 undef = q60
        generalize a'.tmps.getD 61 undef = q61
        generalize a'.tmps.getD 62 undef = q62
        generalize a'.tmps.getD 63 undef = q63
        generalize a'.tmps.getD 64 undef = q64
        go_wp2_with fail
        refine (eqIntS_same h0 u0 rows _ (inRow_own HH.out) (inRow_own HU11.out)).mono ?_
        rintro e w15 ⟨rfl, hb15⟩
        have HG10 := hide (inRow_below HG9.out hb15); have HB15 := hide (HB14.out.trans (hb15.mono HB14.out.size))
        clear hb15
        go_wp2_with fail
        refine (heldIntS_any rows.length 1 g0 _ (by omega) (by omega) HG10.out).mono ?_
        rintro e w16 ⟨rfl, hb16⟩
        have HB16 := hide (HB15.out.trans (hb16.mono HB15.out.size))
        clear hb16
        go_wp2
        go_ret
        exact ⟨rfl, HB16.out⟩
theorem lawGridSums_walk (a : Option Addr) (n c : Nat) (m : List (List Int)) (dx dy : Int) (w : World) (hin : InMat w (.slice a n c) m) :
    Calls Try.prog 4 #[.slice a n c, .agg #[.int .i64 dx, .int .i64 dy]] w fun e w' => e = .returned (.bool true) ∧ Below w.heap.size w w' := by
  have hl : (gsL m dx dy).length ≤ 1000000 := by
    unfold gsL
    split
    · rename_i h
      simp only [gridOkB, Bool.and_eq_true] at h
      obtain ⟨-, hR, hC⟩ := gridB_mk h.1.1
      obtain ⟨N, hN, hN2⟩ := countL_size (near_of h.2) hR hC
      rw [lineRowE, rowF_len, ← hN]; simp; omega
    · simp
  exact lawGridSums_gen a n c m dx dy w hin (gsL m dx dy) hl (fun v w hv => specGridSums_any v m dx dy w hv) (fun v w hv => implGridSums_any v m dx dy w hv)
end Go.Proofs.Ytiajdmoppgpgnaa
/-
  A function value over directions: slices.IndexFunc and ContainsFunc.
-/
namespace Go.Proofs.Ytiajdmoppgpgnaa
open Go.RowKit Go.Shelf

/-- What the function value answers of a direction that meets ok, in whatever world has grown out of W. -/
def DrPred (g : Nat) (cb : Array Value) (ok : Int × Int → Prop) (p : Int × Int → Bool) (W : World) : Prop :=
  ∀ (d : Int × Int) (w : World), ok d → Below W.heap.size W w → Calls Try.prog g (#[drV d] ++ cb) w fun e w' => e = .returned (.bool (p d)) ∧ Below w.heap.size w w'
/-- The place of the first direction at which p holds, or -1. -/
def idxD (p : Int × Int → Bool) (m : List (Int × Int)) : Int := if m.findIdx p < m.length then (m.findIdx p : Nat) else -1
theorem idxD_hit {p : Int × Int → Bool} {m : List (Int × Int)} {k : Nat} (hk : k < m.length) (h : p m[k] = true) (ha : ∀ t, (ht : t < m.length) → t < k → p m[t] = false) : idxD p m = k := by
  have : m.findIdx p = k := (List.findIdx_eq hk).2 ⟨h, fun j hj => ha j (by omega) hj⟩
  rw [idxD, this, if_pos hk]
theorem idxD_miss {p : Int × Int → Bool} {m : List (Int × Int)} (ha : ∀ t, (ht : t < m.length) → p m[t] = false) : idxD p m = -1 := by
  rw [idxD, if_neg]
  intro h
  have := List.findIdx_getElem (w := h)
  rw [ha _ h] at this; cases this
theorem idxD_any (p : Int × Int → Bool) (m : List (Int × Int)) : decide (0 ≤ idxD p m) = m.any p := by
  cases h : m.any p with
  | true =>
    rw [List.any_eq_true] at h
    obtain ⟨x, hx, hp⟩ := h
    have := List.findIdx_lt_length_of_exists ⟨x, hx, hp⟩
    rw [idxD, if_pos this]; simp
  | false =>
    rw [List.any_eq_false] at h
    rw [idxD_miss fun t ht => by simpa using h _ (List.getElem_mem ht)]; rfl
set_option maxHeartbeats 1000000 in
theorem idxDrs_any (v : Value) (m : List (Int × Int)) (g : Nat) (cb : Array Value) (ok : Int × Int → Prop) (p : Int × Int → Bool) (w : World) (eg : ∀ args w, (callFunc g args).run Try.prog w = .ok (.enter g args) w) (hin : InDrs w v m) (hok : ∀ r ∈ m, ok r) (hp : DrPred g cb ok p w) :
    Calls Try.prog 114 #[v, .func (.func g) #[] cb] w fun e w' => e = .returned (.int .i64 (idxD p m)) ∧ Below w.heap.size w w' := by
  obtain ⟨a, c, rfl, hm, hpl⟩ := hin
  unfold maxLen at hm
  have HP := hide hp; have HOK := hide hok
  clear hp hok
  by_cases h0 : m.length = 0
  · have hr : m = [] := List.eq_nil_of_length_eq_zero h0
    subst hr
    clear hpl h0 hm
    go_enter Try.func114, Try.ntmps114
    go_wp2
    go_loop [8] (fun i => i = .int .i64 0) (fun _ => 0)
    case atStart => rfl
    case round =>
      obtain rfl := hrel
      go_wp2
      go_ret
      exact ⟨rfl, Below.refl _ _⟩
  · obtain ⟨b, o, rfl, hg, hc⟩ := hpl.resolve_left h0
    have HC := hide hc; have HG := hide hg
    obtain ⟨n, hn⟩ : ∃ n, n = m.length := ⟨_, rfl⟩
    have HN := hide hn
    rw [← hn] at hm ⊢
    clear hpl hc h0 hn hg
    go_enter Try.func114, Try.ntmps114
    go_wp2
    go_loopw [8] (fun i w' => ∃ k : Nat, k ≤ n ∧ i = .int .i64 k ∧ (∀ t, (h : t < m.length) → t < k → p m[t] = false) ∧ Below w.heap.size w w') (fun i _ => n - (intOf i).toNat)
    case atStart => exact ⟨0, Nat.zero_le _, rfl, fun t _ h => absurd h (Nat.not_lt_zero _), Below.refl _ _⟩
    case round =>
      obtain ⟨k, hk, rfl, hall, hb⟩ := hrel
      have HA := hide hall; have HB := hide hb
      clear hall hb
      by_cases hlt : k < n
      · have hk' : k < m.length := by rw [← HN.out]; exact hlt
        have hx := drC_below (HC.out k hk') HB.out HG.out
        have HDX := hide hx
        obtain ⟨dd, hdd⟩ : ∃ dd, dd = m[k] := ⟨_, rfl⟩
        have HDD := hide hdd
        have HCALL := hide (HP.out m[k] wr (HOK.out _ (List.getElem_mem hk')) HB.out)
        rw [← hdd] at hx HDX
        have HHIT := hide (fun h => idxD_hit (p := p) hk' h HA.out)
        have HST : Hid (p m[k] = false → ∀ t, (h : t < m.length) → t < k + 1 → p m[t] = false) := hide fun h t h1 ht => by
          by_cases e : t = k
          · subst e; exact h
          · exact HA.out t h1 (by omega)
        clear hx
        obtain ⟨q, hq⟩ : ∃ q, q = p m[k] := ⟨_, rfl⟩
        rw [← hq] at HCALL HHIT HST
        rw [← hdd] at HCALL
        clear hq hdd
        cases q with
        | true =>
          have HF := hide (HHIT.out rfl); clear HHIT HST
          go_wp2_with (first | (with_reducible refine wpList_loadDrC HDX.out 15 rfl rfl _ rfl rfl ?_) | (go_at_fn g; refine HCALL.out.mono ?_; rintro e w9 ⟨rfl, hb9⟩; have HB9 := hide (HB.out.trans (hb9.mono HB.out.size)); clear hb9))
          go_ret
          exact ⟨by rw [HF.out]; rfl, HB9.out⟩
        | false =>
          have HS2 := hide (HST.out rfl); clear HST HHIT
          go_wp2_with (first | (with_reducible refine wpList_loadDrC HDX.out 15 rfl rfl _ rfl rfl ?_) | (go_at_fn g; refine HCALL.out.mono ?_; rintro e w9 ⟨rfl, hb9⟩; have HB9 := hide (HB.out.trans (hb9.mono HB.out.size)); clear hb9))
          go_roundw
          case rel => exact ⟨k + 1, by omega, by go_num, HS2.out, HB9.out⟩
          case measure => simp [intOf]; omega
      · have HY := hide (idxD_miss (p := p) fun t h => HA.out t h (by have := HN.out; omega))
        go_wp2
        go_ret
        exact ⟨by rw [HY.out]; rfl, HB.out⟩
set_option maxHeartbeats 400000 in
theorem containsDrs_any (v : Value) (m : List (Int × Int)) (g : Nat) (cb : Array Value) (ok : Int × Int → Prop) (p : Int × Int → Bool) (w : World) (eg : ∀ args w, (callFunc g args).run Try.prog w = .ok (.enter g args) w) (hin : InDrs w v m) (hok : ∀ r ∈ m, ok r) (hp : DrPred g cb ok p w) :
    Calls Try.prog 72 #[v, .func (.func g) #[] cb] w fun e w' => e = .returned (.bool (m.any p)) ∧ Below w.heap.size w w' := by
  have HI := hide (idxDrs_any v m g cb ok p w eg hin hok hp)
  have HY := hide (idxD_any p m)
  have hlo : -1 ≤ idxD p m ∧ idxD p m ≤ maxLen := by
    obtain ⟨a, c, -, hm, -⟩ := hin
    unfold idxD
    by_cases h : m.findIdx p < m.length
    · rw [if_pos h]; omega
    · rw [if_neg h]; exact ⟨by omega, by unfold maxLen; omega⟩
  unfold maxLen at hlo
  obtain ⟨q, hq⟩ : ∃ q, q = idxD p m := ⟨_, rfl⟩
  rw [← hq] at HI HY hlo
  rw [← HY.out]
  obtain ⟨hlo, hhi⟩ := hlo
  clear hin hok hp hq eg HY
  go_enter Try.func72, Try.ntmps72
  go_wp2_with (go_at_call 114; refine HI.out.mono ?_; rintro e w9 ⟨rfl, hb9⟩; have HB9 := hide hb9; clear hb9)
  go_ret
  exact ⟨rfl, HB9.out⟩
end Go.Proofs.Ytiajdmoppgpgnaa
/-
  IsGhost of the program.
-/
namespace Go.Proofs.Ytiajdmoppgpgnaa
open Go.RowKit
set_option maxRecDepth 100000

/-- A ghost: small elements, one of them not 0, no sum in any direction. -/
def ghostB (m : List (List Int)) (l : List (Int × Int)) : Bool := dirsB l && gridOkB m && (m.any fun r => !within r 0) && l.all fun d => within (gsL m d.1 d.2) 0
theorem gsL_nil {m : List (List Int)} {dx dy : Int} (hd : dirOk dx dy = true) : gsL m dx dy = [] ↔ gridOkB m = false := by
  constructor
  · intro h
    cases hg : gridOkB m with
    | false => rfl
    | true =>
      exfalso
      have h1 := congrArg List.length h
      rw [gsL, hg, hd] at h1
      have hgb : gridB m = true := by unfold gridOkB at hg; rw [Bool.and_eq_true] at hg; exact hg.1
      obtain ⟨-, hR, hC⟩ := gridB_mk hgb
      have := countL_pos (near_of hd) hR hC
      simp [lineRowE, rowF_len] at h1
      omega
  · intro h; rw [gsL, h]; rfl
/-- What the program asks of a direction. -/
def badD (m : List (List Int)) (d : Int × Int) : Bool := decide (gsL m d.1 d.2 = []) || !within (gsL m d.1 d.2) 0
theorem ghost_eq (m : List (List Int)) (l : List (Int × Int)) : ghostB m l = (dirsB l && (m.any fun r => !within r 0) && !l.any (badD m)) := by
  unfold ghostB
  cases h : dirsB l with
  | false => rfl
  | true =>
    have hl := dirsB_len h
    have hd : ∀ d ∈ l, dirOk d.1 d.2 = true := fun d hd => by
      obtain ⟨i, hi, rfl⟩ := List.getElem_of_mem hd
      exact (dirsB_at h hi).1
    rw [Bool.true_and, Bool.true_and]
    cases hg : gridOkB m with
    | false =>
      have : l.any (badD m) = true := by
        rw [List.any_eq_true]
        refine ⟨l[0], List.getElem_mem (by omega), ?_⟩
        rw [badD, decide_eq_true ((gsL_nil (hd _ (List.getElem_mem (by omega)))).2 hg)]; rfl
      rw [this]; simp
    | true =>
      have : (l.all fun d => within (gsL m d.1 d.2) 0) = !l.any (badD m) := by
        clear hl h
        induction l with
        | nil => rfl
        | cons d r ih =>
          rw [List.all_cons, List.any_cons, ih fun e he => hd e (List.mem_cons_of_mem _ he)]
          have hne : gsL m d.1 d.2 ≠ [] := fun e => by
            have := (gsL_nil (hd d List.mem_cons_self)).1 e
            rw [hg] at this; cases this
          have e : badD m d = !within (gsL m d.1 d.2) 0 := by rw [badD, decide_eq_false hne, Bool.false_or]
          rw [e]
          cases within (gsL m d.1 d.2) 0 <;> simp
      rw [this, Bool.true_and]
theorem run_eqNil (w : World) : (binOp .eql 33 (.slice none 0 0) (.slice none 0 0)).run Try.prog w = .ok (.bool true) w := _root_.Go.run_eql_slice_nil w _ _ none 0 0 Try.underlying33
theorem run_eqSome (a : Addr) (n c : Nat) (w : World) : (binOp .eql 33 (.slice (some a) n c) (.slice none 0 0)).run Try.prog w = .ok (.bool false) w := _root_.Go.run_eql_slice_nil w _ _ (some a) n c Try.underlying33
theorem notZero_any (W : World) : RowPred 70 #[] (fun _ => True) (fun r => !within r 0) W := by
  intro r u w _ hb hr
  have HC := hide (isZero_any u r w hr)
  obtain ⟨a, c, rfl, -⟩ := hr
  show Calls Try.prog _ #[.slice a r.length c] w fun e w' => e = .returned (.bool (!within r 0)) ∧ Below w.heap.size w w'
  obtain ⟨b, hb⟩ : ∃ b, b = within r 0 := ⟨_, rfl⟩
  rw [← hb] at HC ⊢
  obtain ⟨n, hn⟩ : ∃ n, n = r.length := ⟨_, rfl⟩
  rw [← hn] at HC ⊢
  clear hb hn
  go_enter Try.func70, Try.ntmps70
  go_wp2_with ((with_reducible refine HC.out.mono ?_); rintro e w1 ⟨rfl, hb⟩; have HB := hide hb; clear hb)
  go_ret
  exact ⟨rfl, HB.out⟩
set_option maxHeartbeats 1000000 in
theorem badD_any (v : Value) (m : List (List Int)) (q : Nat) (W : World) (hin : InMat W v m) (hq : q < W.heap.size) (hc : W.cell? ⟨q, 0, none⟩ = some v) : DrPred 73 #[.pointer (some ⟨q, 0, none⟩)] (fun _ => True) (badD m) W := by
  intro d w _ hb
  obtain ⟨dx, dy⟩ := d
  show Calls Try.prog _ #[.agg #[.int .i64 dx, .int .i64 dy], .pointer (some ⟨q, 0, none⟩)] w fun e w' => e = .returned (.bool (badD m (dx, dy))) ∧ Below w.heap.size w w'
  have hcv := below_cell hb hq hc
  have HIN := hide (inMat_below hin hb)
  obtain ⟨a, c, rfl, -⟩ := hin
  have hb0 := (Below.refl w.heap.size w).alloc (Nat.le_refl _) (.cells #[.int .i64 dx, .int .i64 dy] 36)
  have HB0 := hide hb0
  have hcv := below_cell hb0 (Nat.lt_of_lt_of_le hq hb.size) hcv
  have HD0 := hide (show DirAt (w.alloc (.cells #[.int .i64 dx, .int .i64 dy] 36)) w.heap.size dx dy from heap_alloc_new w _)
  have HG := hide (implGridSums_nil _ m dx dy _ (inMat_below HIN.out hb0))
  have HE : Hid (badD m (dx, dy) = (decide (gsL m dx dy = []) || !within (gsL m dx dy) 0)) := hide rfl
  rw [HE.out]
  obtain ⟨s, hs⟩ : ∃ s, s = gsL m dx dy := ⟨_, rfl⟩
  rw [← hs] at HG ⊢
  clear hs HE hb hb0 hc
  obtain ⟨n, hn⟩ : ∃ n, n = m.length := ⟨_, rfl⟩
  rw [← hn] at hcv HG HIN
  clear hn hq
  by_cases h0 : s = []
  · have hnil := run_eqNil
    subst h0
    rw [decide_eq_true rfl, Bool.true_or]
    go_enter Try.func73, Try.ntmps73
    go_wp2_with (first | (with_reducible refine wpList_loadDir HD0.out rfl _ rfl rfl ?_) | ((with_reducible refine HG.out.mono ?_); rintro e w1 ⟨⟨u, he, ho, hb⟩, hn⟩; obtain rfl := hn rfl; have HB := hide (HB0.out.trans (hb.mono HB0.out.size)); clear he ho hb hn))
    go_ret
    exact ⟨rfl, HB.out⟩
  · have hsm := run_eqSome
    rw [decide_eq_false h0, Bool.false_or]
    have hlen : 0 < s.length := by cases s with | nil => exact absurd rfl h0 | cons x r => simp
    have HLEN := hide hlen
    clear h0 hlen
    go_enter Try.func73, Try.ntmps73
    go_wp2_with (first | (with_reducible refine wpList_loadDir HD0.out rfl _ rfl rfl ?_) | ((with_reducible refine HG.out.mono ?_); rintro e w1 ⟨⟨u, rfl, ho, hb⟩, -⟩; have HZ := hide (isZero_any u s w1 (inRow_own ho)); obtain ⟨gu, cu, rfl, -⟩ := own_some ho HLEN.out; have HB := hide (HB0.out.trans (hb.mono HB0.out.size)); clear ho hb) | ((with_reducible refine HZ.out.mono ?_); rintro e w2 ⟨rfl, hb⟩; have HB2 := hide (HB.out.trans (hb.mono HB.out.size)); clear hb))
    go_ret
    exact ⟨rfl, HB2.out⟩

set_option maxHeartbeats 2000000 in
theorem implIsGhost_any (v u : Value) (m : List (List Int)) (l : List (Int × Int)) (w : World) (hin : InMat w v m) (hl : DrsC w u l) :
    Calls Try.prog 30 #[v, u] w fun e w' => e = .returned (.bool (ghostB m l)) ∧ Below w.heap.size w w' := by
  have HIN := hide hin; have HL := hide hl
  obtain ⟨a, c, rfl, -⟩ := hin
  obtain ⟨a2, c2, rfl, hlc, -⟩ := hl
  have HOK := hide fun w h => implDirsOk_any (.slice a2 l.length c2) l w h
  have HB0 := hide ((Below.refl w.heap.size w).alloc (Nat.le_refl _) (.cells #[.slice a m.length c] 29))
  have HE := hide (ghost_eq m l)
  have HC0 := hide (new_cell w (.slice a m.length c) 29 0 _ rfl)
  have HBD := hide fun W hi hq hc => badD_any (.slice a m.length c) m w.heap.size W hi hq hc
  obtain ⟨n, hn⟩ : ∃ n, n = m.length := ⟨_, rfl⟩
  rw [← hn] at HIN HB0 HC0 HBD ⊢
  obtain ⟨n2, hn2⟩ : ∃ n, n = l.length := ⟨_, rfl⟩
  rw [← hn2] at HL HOK hlc ⊢
  clear hn hn2
  rw [HE.out]
  cases hd : dirsB l with
  | false =>
    rw [hd] at HOK
    rw [Bool.false_and, Bool.false_and]
    clear hd
    go_enter Try.func30, Try.ntmps30
    go_wp2_with ((with_reducible refine (HOK.out _ (drsC_below HL.out HB0.out)).mono ?_); rintro e w1 ⟨rfl, hb⟩; have HB := hide (HB0.out.trans (hb.mono HB0.out.size)); clear hb)
    go_ret
    exact ⟨rfl, HB.out⟩
  | true =>
    rw [hd] at HOK
    rw [Bool.true_and]
    clear hd
    obtain ⟨z, hz⟩ : ∃ z, z = m.any fun r => !within r 0 := ⟨_, rfl⟩
    have HZ := hide hz
    rw [← hz]
    clear hz
    cases z with
    | false =>
      rw [Bool.false_and]
      go_enter Try.func30, Try.ntmps30
      go_wp2_with (first | ((with_reducible refine (HOK.out _ (drsC_below HL.out HB0.out)).mono ?_); rintro e w1 ⟨rfl, hb⟩; have hcm := below_cell hb (by simp) HC0.out; have HB := hide (HB0.out.trans (hb.mono HB0.out.size)); clear hb) | ((with_reducible refine (containsRows_any _ m 70 #[] (fun _ => True) (fun r => !within r 0) _ (fun _ _ => rfl) (inMat_below HIN.out HB.out) (fun _ _ => trivial) (notZero_any _)).mono ?_); rw [← HZ.out]; rintro e w2 ⟨rfl, hb⟩; have HB2 := hide (HB.out.trans (hb.mono HB.out.size)); clear hb))
      go_ret
      exact ⟨rfl, HB2.out⟩
    | true =>
      rw [Bool.true_and]
      obtain ⟨q, hq⟩ : ∃ q, q = l.any (badD m) := ⟨_, rfl⟩
      have HQ := hide hq
      rw [← hq]
      clear hq
      go_enter Try.func30, Try.ntmps30
      go_wp2_with (first | ((with_reducible refine (HOK.out _ (drsC_below HL.out HB0.out)).mono ?_); rintro e w1 ⟨rfl, hb⟩; have hcm := below_cell hb (by simp) HC0.out; have HB := hide (HB0.out.trans (hb.mono HB0.out.size)); have hs1 := HB0.out.size; have hs2 := hb.size; clear hb) | ((with_reducible refine (containsRows_any _ m 70 #[] (fun _ => True) (fun r => !within r 0) _ (fun _ _ => rfl) (inMat_below HIN.out HB.out) (fun _ _ => trivial) (notZero_any _)).mono ?_); rw [← HZ.out]; rintro e w2 ⟨rfl, hb⟩; have HCM := hide (below_cell hb (by simp at hs2; omega) hcm); have HB2 := hide (HB.out.trans (hb.mono HB.out.size)); have hs3 := hb.size; clear hb) | ((with_reducible refine (containsDrs_any _ l 73 #[.pointer (some ⟨w.heap.size, 0, none⟩)] (fun _ => True) (badD m) _ (fun _ _ => rfl) (drsC_in (drsC_below HL.out HB2.out)) (fun _ _ => trivial) (HBD.out _ (inMat_below HIN.out HB2.out) (by simp at hs2; omega) HCM.out)).mono ?_); rw [← HQ.out]; rintro e w3 ⟨rfl, hb⟩; have HB3 := hide (HB2.out.trans (hb.mono HB2.out.size)); clear hb))
      go_ret
      exact ⟨rfl, HB3.out⟩
end Go.Proofs.Ytiajdmoppgpgnaa
