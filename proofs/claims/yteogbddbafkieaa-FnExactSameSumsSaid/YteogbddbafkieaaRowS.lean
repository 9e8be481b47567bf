/-
  RowSums of both.
-/
import Derived.Test.YteogbddbafkieaaSumF
namespace Go.Proofs.Yteogbddbafkieaa
open Go.RowKit

theorem alongRows_any (w : World) : Calls Try.prog 38 #[] w fun e w' => e = .returned (.agg #[.int .i64 1, .int .i64 0]) ∧ Below w.heap.size w w' := by
  go_enter Try.func38, Try.ntmps38
  go_wp2
  exact bodyPost_ret (v := .agg #[.int .i64 1, .int .i64 0]) (by simp [results, Try.results38, go_sem]) rfl ⟨rfl, (Below.refl _ _).alloc (Nat.le_refl _) _⟩
theorem alongCols_any (w : World) : Calls Try.prog 52 #[] w fun e w' => e = .returned (.agg #[.int .i64 0, .int .i64 1]) ∧ Below w.heap.size w w' := by
  go_enter Try.func52, Try.ntmps52
  go_wp2
  exact bodyPost_ret (v := .agg #[.int .i64 0, .int .i64 1]) (by simp [results, Try.results52, go_sem]) rfl ⟨rfl, (Below.refl _ _).alloc (Nat.le_refl _) _⟩

theorem implRowSums_no (v : Value) (m : List (List Int)) (w : World) (hin : InMat w v m) (h : okB m = false) :
    Calls Try.prog 14 #[v] w (IntsRes [] w) := by
  have HI := hide hin; have H := hide h
  clear hin h
  go_enter Try.func14, Try.ntmps14
  go_wp2_with fail
  refine (alongRows_any _).mono ?_
  rintro e w1 ⟨rfl, hb⟩
  have HB := hide hb
  clear hb
  go_wp2_with fail
  refine (implLineSums_img v m 1 0 _ (inMat_below HI.out HB.out) H.out).mono ?_
  rintro e w2 ⟨u, rfl, ho, hb⟩
  have HO := hide (own_base ho HB.out.size); have HB2 := hide (HB.out.trans (hb.mono HB.out.size))
  clear ho hb
  go_wp2
  go_ret
  exact ⟨_, rfl, HO.out, HB2.out⟩
theorem implRowSums_yes (v : Value) (R C : Nat) (f : Nat → Nat → Int) (w : World) (hin : InMat w v (mkM R C f)) (hI : Img R C f) :
    Calls Try.prog 14 #[v] w (IntsRes (rowsL R C f) w) := by
  have HI := hide hin; have H := hide hI
  rw [← lineRow_rows]
  clear hin hI
  go_enter Try.func14, Try.ntmps14
  go_wp2_with fail
  refine (alongRows_any _).mono ?_
  rintro e w1 ⟨rfl, hb⟩
  have HB := hide hb
  clear hb
  go_wp2_with fail
  refine (implLineSums_yes v R C R f 1 0 _ (inMat_below HI.out HB.out) H.out (by decide) (countL_rows R C).symm (by have := H.out.r2; omega)).mono ?_
  rintro e w2 ⟨u, rfl, ho, hb⟩
  have HO := hide (own_base ho HB.out.size); have HB2 := hide (HB.out.trans (hb.mono HB.out.size))
  clear ho hb
  go_wp2
  go_ret
  exact ⟨_, rfl, HO.out, HB2.out⟩

set_option maxHeartbeats 400000 in
theorem specRowSums_no (v : Value) (m : List (List Int)) (w : World) (hin : InMat w v m) (h : okB m = false) :
    Calls Try.prog 12 #[v] w (IntsRes [] w) := by
  have HI := hide hin; have H := hide h
  clear hin h
  go_enter Try.func12, Try.ntmps12
  go_wp2_with ((with_reducible refine (specImageOk_any v m _ HI.out).mono ?_); rw [H.out]; rintro e w' ⟨rfl, rfl⟩)
  go_ret
  exact intsRes_nil (Below.refl _ _)
set_option maxHeartbeats 1000000 in
theorem specRowSums_yes (v : Value) (R C : Nat) (f : Nat → Nat → Int) (w : World) (hin : InMat w v (mkM R C f)) (hI : Img R C f) :
    Calls Try.prog 12 #[v] w (IntsRes (rowsL R C f) w) := by
  have HM := hide hin; have H := hide hI
  obtain ⟨g, o, cap, rfl, hg, hrow⟩ := inMat_img hin (by have := hI.r1; omega) (by have := hI.c1; omega)
  have HROW := hide hrow
  obtain ⟨r1, r2, c1, c2, -⟩ := hI
  clear hin hrow
  go_enter Try.func12, Try.ntmps12
  go_wp2_with ((with_reducible refine (specImageOk_any _ _ _ HM.out).mono ?_); rw [img_ok H.out]; rintro e w' ⟨rfl, rfl⟩)
  have HO0 : Hid ((w.alloc (.cells #[] 3)).ownsRow w.heap.size 3 1 (.slice (some ⟨w.heap.size, 0, none⟩) 0 0) 0 []) := hide (World.ownsRow_made (base := w.heap.size) w #[] 0 (Nat.le_refl _) (Nat.zero_le _) rfl)
  have HB0 := hide ((Below.refl w.heap.size w).alloc (Nat.le_refl _) (.cells #[] 3))
  go_loopw [3, 15] (fun s i wr => ∃ y : Nat, y ≤ R ∧ i = .int .i64 y ∧ wr.ownsRow w.heap.size 3 1 s y (ints (rowF y fun k => (rs C f k : Nat))) ∧ Below w.heap.size w wr) (fun _ i _ => R - (intOf i).toNat)
  case atStart => exact ⟨0, Nat.zero_le _, rfl, HO0.out, HB0.out⟩
  case round =>
    obtain ⟨y, hy, rfl, ho, hb⟩ := hrel
    have HB := hide hb
    obtain ⟨sa, sc, rfl⟩ := own_slice ho
    have HO := hide ho
    have hsz := hb.size
    clear ho hb
    by_cases hly : y < R
    · obtain ⟨g', o', c', hcr, hg', hcell⟩ := HROW.out y hly
      have hcr := below_cell HB.out hg hcr
      have HCELL := hide hcell
      clear hcell
      go_wp2
      go_loop [6, 21] (fun n i => ∃ x : Nat, x ≤ C ∧ i = .int .i64 x ∧ n = .int .i64 (cnt (fun x => f y x == 1) x : Nat)) (fun _ i => C - (intOf i).toNat)
      case atStart => exact ⟨0, Nat.zero_le _, rfl, rfl⟩
      case round =>
        obtain ⟨x, hx, rfl, rfl⟩ := hrel
        have hcl := cnt_le (fun x => f y x == 1) x
        by_cases hlx : x < C
        · have hcx := below_cell HB.out hg' (HCELL.out x hlx)
          have HST := hide (rs_cell H.out hly hlx)
          have hf : 0 ≤ f y x ∧ f y x ≤ 1 := by rcases H.out.cell y x hly hlx with e | e <;> rw [e] <;> decide
          obtain ⟨hf0, hf1⟩ := hf
          obtain ⟨z, hz⟩ : ∃ z, z = f y x := ⟨_, rfl⟩
          obtain ⟨q, hq⟩ : ∃ q, q = cnt (fun x => f y x == 1) x := ⟨_, rfl⟩
          rw [← hz] at hcx HST hf0 hf1
          rw [← hq] at HST hcl ⊢
          clear hz hq
          go_wp2
          go_round
          case rel => exact ⟨x + 1, by omega, by go_num, by rw [HST.out]⟩
          case measure => simp [intOf]; omega
        · obtain rfl : x = C := by omega
          obtain ⟨q, hq⟩ : ∃ q, q = cnt (fun z => f y z == 1) x := ⟨_, rfl⟩
          have HQ := hide (show q = rs x f y from hq)
          rw [← hq] at hcl ⊢
          clear hq
          go_wp2_with (at_builtin; refine wpList_push HO.out (.int .i64 q) (.int .i64 0) rfl _ _ rfl Try.underlying24 Try.infoInt rfl (by decide) rfl rfl rfl (by omega) (by omega) ?_; intro v' w6 hown1 hb1 hg1)
          go_roundw
          case rel =>
            refine ⟨y + 1, by omega, by go_num, ?_, HB.out.trans hb1⟩
            have e : ints (rowF (y + 1) fun k => ((rs x f k : Nat) : Int)) = ints (rowF y fun k => ((rs x f k : Nat) : Int)) ++ [.int .i64 q] := by
              rw [HQ.out]; simp [ints, rowF, List.range_succ]
            rw [e]; exact hown1
          case measure => simp [intOf]; omega
    · obtain rfl : y = R := by omega
      go_wp2
      go_ret
      exact ⟨_, rfl, by rw [rowsL, rowF_len]; exact HO.out, HB.out⟩
end Go.Proofs.Yteogbddbafkieaa
