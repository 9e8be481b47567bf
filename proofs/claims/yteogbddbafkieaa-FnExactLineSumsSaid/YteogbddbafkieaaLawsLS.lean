/-
  The exact law on LineSums, walked.
-/
import Derived.Test.YteogbddbafkieaaSLSums
import Derived.Test.YteogbddbafkieaaLawsL
namespace Go.Proofs.Yteogbddbafkieaa
open Go.RowKit
set_option linter.unusedVariables false

theorem exec_loadLDir {ρ : Operand → Value} {o : Oper} {w : World} {x : Operand} {g : Nat} {dx dy : Int} (ho : o.op = .load 32 x) (hx : ρ x = .pointer (some ⟨g, 0, none⟩)) (hd : LDirAt w g dx dy) :
    (execOp ρ o).run Try.prog w = .ok (.value (.agg #[.int .i64 dx, .int .i64 dy])) w := by
  unfold execOp
  simp only [ho, hx, Instr.loadAt, Instr.sureAddr, Sem.run_bind, Sem.run_pure, Result.andThen_ok, run_loadVar_row w g _ _ _ _ _ hd Try.underlying32 rfl Try.sizeLDir]
theorem ldir_block {w w' : World} {g : Nat} {dx dy : Int} (h : LDirAt w g dx dy) (e : w'.heap[g]? = w.heap[g]?) : LDirAt w' g dx dy := e.trans h
def inM' (m : List (List Int)) : FactP := fun u w => InMat w u m
theorem stable_m (m : List (List Int)) : StableP (inM' m) := fun _ _ _ hb h => inMat_below h hb
def ownI (B : Nat) (rows : List Int) : FactP := fun u w => w.ownsRow B 3 1 u rows.length (ints rows)
theorem stable_o (B : Nat) (rows : List Int) : StableP (ownI B rows) := fun _ _ _ hb h => own_below h hb

set_option maxRecDepth 100000 in
set_option maxHeartbeats 4000000 in
theorem lawLineSums_gen (a : Option Addr) (n c : Nat) (m : List (List Int)) (dx dy : Int) (w : World) (hin : InMat w (.slice a n c) m) (rows : List Int) (hrows : rows.length ≤ 1000000)
    (hs : ∀ v w, InMat w v m → Calls Try.prog 29 #[v, .agg #[.int .i64 dx, .int .i64 dy]] w (IntsRes rows w))
    (hi : ∀ v w, InMat w v m → Calls Try.prog 30 #[v, .agg #[.int .i64 dx, .int .i64 dy]] w (IntsRes rows w)) :
    Calls Try.prog 8 #[.slice a n c, .agg #[.int .i64 dx, .int .i64 dy]] w fun e w' => e = .returned (.bool true) ∧ Below w.heap.size w w' := by
  have hb0 := (Below.refl w.heap.size w).alloc (Nat.le_refl _) (.cells #[.int .i64 dx, .int .i64 dy] 32)
  have HI := hide hin; have HI0 := hide (inMat_below hin hb0); have HS := hide hs; have HM := hide hi
  have HB0 := hide hb0
  have HD0 := hide (show LDirAt (w.alloc (.cells #[.int .i64 dx, .int .i64 dy] 32)) w.heap.size dx dy from heap_alloc_new w _)
  clear hin hs hi hb0
  go_enter Try.func8, Try.ntmps8
  go_wp2_with fail
  refine (szIntSS_any _ m 1048576 _ (by omega) HI0.out).mono ?_
  rintro e w1 ⟨r, rfl, hr, hb1⟩
  have HB1 := hide (HB0.out.trans (hb1.mono HB0.out.size)); have HD1 := hide (ldirAt_below HD0.out hb1)
  clear hb1
  rcases hr with rfl | ⟨hsz, rfl⟩
  · go_wp2
    go_ret
    exact ⟨rfl, HB1.out⟩
  · go_upto_region 5 with fail
    obtain ⟨fs, hfs⟩ : ∃ fs : List FactP, fs = [isV (.slice a n c), inM' m, isV (.agg #[.int .i64 dx, .int .i64 dy]), isV (.agg #[.int .i64 dx, .int .i64 dy]), ownI w1.heap.size rows] := ⟨_, rfl⟩
    have hst : ∀ f ∈ fs, StableP f := by
      rw [hfs]; intro f hf
      simp only [List.mem_cons, List.not_mem_nil, or_false] at hf
      rcases hf with rfl | rfl | rfl | rfl | rfl <;> first | exact stable_v _ | exact stable_m _ | exact stable_o _ _
    subst hfs
    refine wp_region_tail (S := fun w2 => LDirAt w2 w.heap.size dx dy ∧ Below w1.heap.size w1 w2) [isV (.slice a n c), inM' m, isV (.agg #[.int .i64 dx, .int .i64 dy]), isV (.agg #[.int .i64 dx, .int .i64 dy]), ownI w1.heap.size rows] [(0, .slice a n c), (3, .pointer (some ⟨w.heap.size, 0, none⟩))] _ _ 5 (by kernel_rfl) rfl rfl (by kernel_rfl) (by kernel_rfl) rfl (by kernel_rfl) ?base ⟨HD1.out, below_drew (Below.refl _ _)⟩ ?ob rfl ?fin
    case base =>
      intro t v ht
      simp only [List.lookup_cons, List.lookup_nil] at ht
      repeat' split at ht
      all_goals first | (cases ht; done) | (obtain rfl := Option.some.inj ht; rename_i hh; obtain rfl := eq_of_beq hh; rfl)
    case ob =>
      exact ⟨obt_move (.slice a n c) rfl rfl rfl (srt_b 0 rfl),
        obt_call hst [.slice a n c] rfl Try.func13 (by kernel_rfl) (by kernel_rfl) rfl ⟨(srt_j 0 rfl (by kernel_rfl) rfl), trivial⟩ (fun w2 hS => (toIntSS_any _ m _ (by omega) (inMat_below HI.out (HB1.out.trans (hS.2.mono HB1.out.size)))).mono fun e w3 ⟨u, he, ho, hh⟩ => ⟨_, he, ⟨ldirAt_below hS.1 hh, hS.2.trans (hh.mono hS.2.size)⟩, hh, inMat_own ho⟩),
        obt_one (.agg #[.int .i64 dx, .int .i64 dy]) rfl rfl (srt_b 3 rfl) (fun ρ w2 hS hx => exec_loadLDir rfl hx hS.1),
        obt_call hst [.agg #[.int .i64 dx, .int .i64 dy]] rfl Try.func23 (by kernel_rfl) (by kernel_rfl) rfl ⟨(srt_j 2 rfl (by kernel_rfl) rfl), trivial⟩ (fun w2 hS => (toDirection_any dx dy _).mono fun e w3 ⟨he, hh⟩ => ⟨_, he, ⟨ldirAt_below hS.1 hh, hS.2.trans (hh.mono hS.2.size)⟩, hh, rfl⟩),
        obt_call_l hst 1 rfl Try.func29 (by kernel_rfl) (by kernel_rfl) rfl rfl (by kernel_rfl) (srt_j 3 rfl (by kernel_rfl) rfl) (fun v w2 hS hf => (HS.out v _ hf).mono fun e w3 ⟨u, he, ho, hh⟩ => ⟨_, he, ⟨ldirAt_below hS.1 hh, hS.2.trans (hh.mono hS.2.size)⟩, hh, own_base ho hS.2.size⟩),
        trivial⟩
    case fin =>
      intro a' w' h1 h2 h3 hS h4 K hK
      obtain ⟨u0, HU⟩ : ∃ u, Hid (a'.eval (.tmp 22) = u) := ⟨_, hide rfl⟩
      have HO := hide (h4 4 22 rfl (by decide))
      refine tail_assign rfl HU.out ?_ K hK
      have ha : a' = ⟨List.toArray [.slice a n c, .agg #[.int .i64 dx, .int .i64 dy], undef, .pointer (some ⟨w.heap.size, 0, none⟩), .bool false, .int .i64 (1048576 - m.length - cellsM m : Nat), a'.tmps.getD 6 undef, undef, undef, undef, undef, undef, undef, .slice a n c, .int .i64 1048576, .int .i64 (1048576 - m.length - cellsM m : Nat), .int .i64 (1048576 - m.length - cellsM m : Nat), .bool (decide (((1048576 - m.length - cellsM m : Nat) : Int) < 0)), a'.tmps.getD 18 undef, a'.tmps.getD 19 undef, a'.tmps.getD 20 undef, a'.tmps.getD 21 undef, a'.tmps.getD 22 undef, undef, undef, undef, undef, undef, undef, undef, undef, undef, undef, undef, undef, undef, undef, undef, undef, undef, undef, undef, undef, undef, undef, undef, undef, undef, undef, undef, undef, undef, undef, undef, undef, undef, undef, undef, undef, undef, undef, undef, undef, undef, undef, undef, undef, undef, undef, undef, undef, undef, undef, undef, undef, undef, undef], []⟩ := frame_eq _ h1 h2 ⟨(h3 0 (by kernel_rfl)), (h3 1 (by kernel_rfl)), (h3 2 (by kernel_rfl)), (h3 3 (by kernel_rfl)), (h3 4 (by kernel_rfl)), (h3 5 (by kernel_rfl)), rfl, (h3 7 (by kernel_rfl)), (h3 8 (by kernel_rfl)), (h3 9 (by kernel_rfl)), (h3 10 (by kernel_rfl)), (h3 11 (by kernel_rfl)), (h3 12 (by kernel_rfl)), (h3 13 (by kernel_rfl)), (h3 14 (by kernel_rfl)), (h3 15 (by kernel_rfl)), (h3 16 (by kernel_rfl)), (h3 17 (by kernel_rfl)), rfl, rfl, rfl, rfl, rfl, (h3 23 (by kernel_rfl)), (h3 24 (by kernel_rfl)), (h3 25 (by kernel_rfl)), (h3 26 (by kernel_rfl)), (h3 27 (by kernel_rfl)), (h3 28 (by kernel_rfl)), (h3 29 (by kernel_rfl)), (h3 30 (by kernel_rfl)), (h3 31 (by kernel_rfl)), (h3 32 (by kernel_rfl)), (h3 33 (by kernel_rfl)), (h3 34 (by kernel_rfl)), (h3 35 (by kernel_rfl)), (h3 36 (by kernel_rfl)), (h3 37 (by kernel_rfl)), (h3 38 (by kernel_rfl)), (h3 39 (by kernel_rfl)), (h3 40 (by kernel_rfl)), (h3 41 (by kernel_rfl)), (h3 42 (by kernel_rfl)), (h3 43 (by kernel_rfl)), (h3 44 (by kernel_rfl)), (h3 45 (by kernel_rfl)), (h3 46 (by kernel_rfl)), (h3 47 (by kernel_rfl)), (h3 48 (by kernel_rfl)), (h3 49 (by kernel_rfl)), (h3 50 (by kernel_rfl)), (h3 51 (by kernel_rfl)), (h3 52 (by kernel_rfl)), (h3 53 (by kernel_rfl)), (h3 54 (by kernel_rfl)), (h3 55 (by kernel_rfl)), (h3 56 (by kernel_rfl)), (h3 57 (by kernel_rfl)), (h3 58 (by kernel_rfl)), (h3 59 (by kernel_rfl)), (h3 60 (by kernel_rfl)), (h3 61 (by kernel_rfl)), (h3 62 (by kernel_rfl)), (h3 63 (by kernel_rfl)), (h3 64 (by kernel_rfl)), (h3 65 (by kernel_rfl)), (h3 66 (by kernel_rfl)), (h3 67 (by kernel_rfl)), (h3 68 (by kernel_rfl)), (h3 69 (by kernel_rfl)), (h3 70 (by kernel_rfl)), (h3 71 (by kernel_rfl)), (h3 72 (by kernel_rfl)), (h3 73 (by kernel_rfl)), (h3 74 (by kernel_rfl)), (h3 75 (by kernel_rfl)), (h3 76 (by kernel_rfl)), trivial⟩
      rw [ha]
      have HU0 : Hid (w'.ownsRow w1.heap.size 3 1 u0 rows.length (ints rows)) := hide (by rw [← HU.out]; exact HO.out)
      have HUL := hide (fun k e => (HU0.out.lt k e).2)
      have HB3 := hide (HB1.out.trans (hS.2.mono HB1.out.size)); have HD3 := hide hS.1
      have hdl := (Array.getElem?_eq_some_iff.1 HD3.out).1
      obtain ⟨w3, hw3⟩ : ∃ w3, w3 = w' := ⟨_, rfl⟩
      rw [← hw3] at HU0 HUL HB3 HD3 hdl ⊢
      clear hw3 HU HO h1 h2 h3 h4 hS hst ha hK
      generalize a'.tmps.getD 6 undef = p6
      generalize a'.tmps.getD 18 undef = p18
      generalize a'.tmps.getD 19 undef = p19
      generalize a'.tmps.getD 20 undef = p20
      generalize a'.tmps.getD 21 undef = p21
      generalize a'.tmps.getD 22 undef = p22
      go_wp2_with fail
      refine (toIntSS_any _ m _ (by omega) (inMat_below HI.out HB3.out)).mono ?_
      rintro e w4 ⟨v4, rfl, ho4, hb4⟩
      have HO4 := hide ho4; have HU1 := hide (own_below HU0.out hb4); have HB4 := hide (HB3.out.trans (hb4.mono HB3.out.size)); have HD4 := hide (ldirAt_below HD3.out hb4); have hs4 := hb4.size; clear ho4 hb4
      go_wp2_with (with_reducible refine wpList_loadLDir HD4.out rfl _ rfl rfl ?_)
      refine (toDirection_any dx dy _).mono ?_
      rintro e w40 ⟨rfl, hb40⟩
      have HO40 := hide (ownMat_below HO4.out hb40); have HU40 := hide (own_below HU1.out hb40); have HB40 := hide (HB4.out.trans (hb40.mono HB4.out.size)); have HD40 := hide (ldirAt_below HD4.out hb40); have hs40 := hb40.size; clear hb40
      go_wp2_with fail
      refine (HM.out v4 _ (inMat_own HO40.out)).mono ?_
      rintro e w5 ⟨g0, rfl, ho5, hb5⟩
      have HG0 := hide (own_base (base' := w4.heap.size) ho5 hs40); have HO5 := hide (ownMat_below HO40.out hb5); have HU2 := hide (own_below HU40.out hb5); have HB5 := hide (HB40.out.trans (hb5.mono HB40.out.size)); have HD5 := hide (ldirAt_below HD40.out hb5)
      have hs5 := hb5.size; clear ho5 hb5
      go_wp2_with fail
      refine (eqIntS_same g0 u0 rows _ (inRow_own HG0.out) (inRow_own HU2.out)).mono ?_
      rintro e w6 ⟨rfl, hb6⟩
      have HD6 := hide (ldirAt_below HD5.out hb6); have HG1 := hide (own_below HG0.out hb6); have HO6 := hide (ownMat_below HO5.out hb6); have HU3 := hide (own_below HU2.out hb6); have HB6 := hide (HB5.out.trans (hb6.mono HB5.out.size))
      have hs6 := hb6.size; clear hb6
      go_wp2_with fail
      refine (toIntSS_any _ m _ (by omega) (inMat_below HI.out HB6.out)).mono ?_
      rintro e w7 ⟨v7, rfl, ho7, hb7⟩
      have HD7 := hide (ldirAt_below HD6.out hb7); have HV7 := hide ho7; have HG2 := hide (own_below HG1.out hb7); have HO7 := hide (ownMat_below HO6.out hb7); have HU4 := hide (own_below HU3.out hb7); have HB7 := hide (HB6.out.trans (hb7.mono HB6.out.size))
      have hs7 := hb7.size; clear ho7 hb7
      go_wp2_with fail
      refine (eqIntSS_same v4 v7 m _ (inMat_own HO7.out) (inMat_own HV7.out)).mono ?_
      rintro e w8 ⟨rfl, hb8⟩
      have HD8 := hide (ldirAt_below HD7.out hb8); have HG3 := hide (own_below HG2.out hb8); have HO8 := hide (ownMat_below HO7.out hb8); have HU5 := hide (own_below HU4.out hb8); have HB8 := hide (HB7.out.trans (hb8.mono HB7.out.size))
      have hs8 := hb8.size; clear hb8
      go_wp2_with fail
      refine (markIntSS_any m 1 _ _ v4 _ (by omega) (by omega) HO8.out).mono ?_
      rintro e w9 ⟨rfl, -, hw9⟩
      have HG4 := hide (own_within HG3.out hw9 (fun k e => .inr (HG3.out.lt k e).1)); have HU6 := hide (own_within HU5.out hw9 (fun k e => .inl (HUL.out k e))); have HB9 := hide (HB8.out.trans (below_within hw9 HB3.out.size HB8.out.size))
      have HD9 : Hid (LDirAt _ _ dx dy) := hide (ldir_block HD8.out (hw9.block _ (Array.getElem?_eq_some_iff.1 HD8.out).1 (.inl hdl)))
      have hs9 := hw9.size; clear hw9
      go_wp2_with fail
      refine (eqIntS_same g0 u0 rows _ (inRow_own HG4.out) (inRow_own HU6.out)).mono ?_
      rintro e w10 ⟨rfl, hb10⟩
      have HD10 := hide (ldirAt_below HD9.out hb10); have HG5 := hide (own_below HG4.out hb10); have HU7 := hide (own_below HU6.out hb10); have HB10 := hide (HB9.out.trans (hb10.mono HB9.out.size))
      have hs10 := hb10.size; clear hb10
      go_wp2_with fail
      refine (markIntS_any rows.length 1 g0 _ _ _ (by omega) (by omega) HG5.out).mono ?_
      rintro e w11 ⟨rfl, ho11, hg11⟩
      have HNE : Hid (u0.ownBlock = none ∨ u0.ownBlock ≠ g0.ownBlock) := hide (by
        cases e0 : u0.ownBlock with
        | none => exact .inl rfl
        | some k =>
          refine .inr fun e1 => ?_
          have q1 := HUL.out k e0
          have q2 := (HG5.out.lt k e1.symm).1
          omega)
      have HG6 := hide (inRow_own (r := markR rows.length 1) (by rw [markR_len]; exact ho11)); have HU8 := hide (HU7.out.kept hg11 HNE.out)
      have HB11 := hide (HB10.out.trans (grown_below hg11 (fun k hk => by have := (HG5.out.lt k hk).1; have := HB4.out.size; omega) HB10.out.size))
      have HD11 : Hid (LDirAt _ _ dx dy) := hide (ldir_block HD10.out (hg11.block _ (Array.getElem?_eq_some_iff.1 HD10.out).1 (fun e => by have := (HG5.out.lt _ e.symm).1; omega)))
      clear ho11 hg11
      go_wp2_with fail
      refine (heldIntS_any rows.length 1 g0 _ (by omega) (by omega) HG6.out).mono ?_
      rintro e w12 ⟨rfl, hb12⟩
      have HD12 := hide (ldirAt_below HD11.out hb12); have HG7 := hide (inRow_below HG6.out hb12); have HU9 := hide (own_below HU8.out hb12); have HB12 := hide (HB11.out.trans (hb12.mono HB11.out.size))
      clear hb12
      go_upto_region 24 with fail
      obtain ⟨fs, hfs⟩ : ∃ fs : List FactP, fs = [isV (.slice a n c), inM' m, isV (.agg #[.int .i64 dx, .int .i64 dy]), isV (.agg #[.int .i64 dx, .int .i64 dy]), ownI w12.heap.size rows] := ⟨_, rfl⟩
      have hst : ∀ f ∈ fs, StableP f := by
        rw [hfs]; intro f hf
        simp only [List.mem_cons, List.not_mem_nil, or_false] at hf
        rcases hf with rfl | rfl | rfl | rfl | rfl <;> first | exact stable_v _ | exact stable_m _ | exact stable_o _ _
      subst hfs
      refine wp_region_tail (S := fun w2 => LDirAt w2 w.heap.size dx dy ∧ Below w12.heap.size w12 w2) [isV (.slice a n c), inM' m, isV (.agg #[.int .i64 dx, .int .i64 dy]), isV (.agg #[.int .i64 dx, .int .i64 dy]), ownI w12.heap.size rows] [(0, .slice a n c), (3, .pointer (some ⟨w.heap.size, 0, none⟩))] _ _ 5 (by kernel_rfl) rfl rfl (by kernel_rfl) (by kernel_rfl) rfl (by kernel_rfl) ?base ⟨HD12.out, below_drew (Below.refl _ _)⟩ ?ob rfl ?fin
      case base =>
        intro t v ht
        simp only [List.lookup_cons, List.lookup_nil] at ht
        repeat' split at ht
        all_goals first | (cases ht; done) | (obtain rfl := Option.some.inj ht; rename_i hh; obtain rfl := eq_of_beq hh; rfl)
      case ob =>
        exact ⟨obt_move (.slice a n c) rfl rfl rfl (srt_b 0 rfl),
          obt_call hst [.slice a n c] rfl Try.func13 (by kernel_rfl) (by kernel_rfl) rfl ⟨(srt_j 0 rfl (by kernel_rfl) rfl), trivial⟩ (fun w2 hS => (toIntSS_any _ m _ (by omega) (inMat_below HI.out (HB12.out.trans (hS.2.mono HB12.out.size)))).mono fun e w3 ⟨u, he, ho, hh⟩ => ⟨_, he, ⟨ldirAt_below hS.1 hh, hS.2.trans (hh.mono hS.2.size)⟩, hh, inMat_own ho⟩),
          obt_one (.agg #[.int .i64 dx, .int .i64 dy]) rfl rfl (srt_b 3 rfl) (fun ρ w2 hS hx => exec_loadLDir rfl hx hS.1),
          obt_call hst [.agg #[.int .i64 dx, .int .i64 dy]] rfl Try.func23 (by kernel_rfl) (by kernel_rfl) rfl ⟨(srt_j 2 rfl (by kernel_rfl) rfl), trivial⟩ (fun w2 hS => (toDirection_any dx dy _).mono fun e w3 ⟨he, hh⟩ => ⟨_, he, ⟨ldirAt_below hS.1 hh, hS.2.trans (hh.mono hS.2.size)⟩, hh, rfl⟩),
          obt_call_l hst 1 rfl Try.func30 (by kernel_rfl) (by kernel_rfl) rfl rfl (by kernel_rfl) (srt_j 3 rfl (by kernel_rfl) rfl) (fun v w2 hS hf => (HM.out v _ hf).mono fun e w3 ⟨u, he, ho, hh⟩ => ⟨_, he, ⟨ldirAt_below hS.1 hh, hS.2.trans (hh.mono hS.2.size)⟩, hh, own_base ho hS.2.size⟩),
          trivial⟩
      case fin =>
        intro a' w' h1 h2 h3 hS h4 K hK
        obtain ⟨h0, HU⟩ : ∃ u, Hid (a'.eval (.tmp 64) = u) := ⟨_, hide rfl⟩
        have HO := hide (h4 4 64 rfl (by decide))
        refine tail_assign rfl HU.out ?_ K hK
        have ha : a' = ⟨List.toArray [.slice a n c, .agg #[.int .i64 dx, .int .i64 dy], undef, .pointer (some ⟨w.heap.size, 0, none⟩), .bool false, .int .i64 (1048576 - m.length - cellsM m : Nat), u0, v4, g0, .int .i64 (1 + (cellsM m : Nat)), .int .i64 (1 + (rows.length : Nat)), .int .i64 (1 + (rows.length : Nat)), a'.tmps.getD 12 undef, .slice a n c, .int .i64 1048576, .int .i64 (1048576 - m.length - cellsM m : Nat), .int .i64 (1048576 - m.length - cellsM m : Nat), .bool (decide (((1048576 - m.length - cellsM m : Nat) : Int) < 0)), p18, p19, p20, p21, p22, .slice a n c, v4, v4, .agg #[.int .i64 dx, .int .i64 dy], .agg #[.int .i64 dx, .int .i64 dy], g0, g0, u0, .bool true, .bool false, v4, .slice a n c, v7, .bool true, .bool false, v4, .int .i64 1, .int .i64 (1 + (cellsM m : Nat)), .int .i64 (1 + (cellsM m : Nat)), .bool (decide ((1 + (cellsM m : Nat) : Int) < 0)), .bool (decide ((1 + (cellsM m : Nat) : Int) < 0)), g0, u0, .bool true, .bool false, .bool (decide ((1 + (cellsM m : Nat) : Int) < 0)), g0, .int .i64 1, .int .i64 (1 + (rows.length : Nat)), g0, .int .i64 1, .int .i64 (1 + (rows.length : Nat)), .int .i64 (1 + (rows.length : Nat)), .bool (decide ((1 + (rows.length : Nat) : Int) < 0)), .int .i64 (1 + (rows.length : Nat)), .int .i64 (1 + (rows.length : Nat)), .bool false, a'.tmps.getD 60 undef, a'.tmps.getD 61 undef, a'.tmps.getD 62 undef, a'.tmps.getD 63 undef, a'.tmps.getD 64 undef, undef, undef, undef, undef, undef, undef, undef, undef, undef, undef, undef, undef], []⟩ := frame_eq _ h1 h2 ⟨(h3 0 (by kernel_rfl)), (h3 1 (by kernel_rfl)), (h3 2 (by kernel_rfl)), (h3 3 (by kernel_rfl)), (h3 4 (by kernel_rfl)), (h3 5 (by kernel_rfl)), (h3 6 (by kernel_rfl)), (h3 7 (by kernel_rfl)), (h3 8 (by kernel_rfl)), (h3 9 (by kernel_rfl)), (h3 10 (by kernel_rfl)), (h3 11 (by kernel_rfl)), rfl, (h3 13 (by kernel_rfl)), (h3 14 (by kernel_rfl)), (h3 15 (by kernel_rfl)), (h3 16 (by kernel_rfl)), (h3 17 (by kernel_rfl)), (h3 18 (by kernel_rfl)), (h3 19 (by kernel_rfl)), (h3 20 (by kernel_rfl)), (h3 21 (by kernel_rfl)), (h3 22 (by kernel_rfl)), (h3 23 (by kernel_rfl)), (h3 24 (by kernel_rfl)), (h3 25 (by kernel_rfl)), (h3 26 (by kernel_rfl)), (h3 27 (by kernel_rfl)), (h3 28 (by kernel_rfl)), (h3 29 (by kernel_rfl)), (h3 30 (by kernel_rfl)), (h3 31 (by kernel_rfl)), (h3 32 (by kernel_rfl)), (h3 33 (by kernel_rfl)), (h3 34 (by kernel_rfl)), (h3 35 (by kernel_rfl)), (h3 36 (by kernel_rfl)), (h3 37 (by kernel_rfl)), (h3 38 (by kernel_rfl)), (h3 39 (by kernel_rfl)), (h3 40 (by kernel_rfl)), (h3 41 (by kernel_rfl)), (h3 42 (by kernel_rfl)), (h3 43 (by kernel_rfl)), (h3 44 (by kernel_rfl)), (h3 45 (by kernel_rfl)), (h3 46 (by kernel_rfl)), (h3 47 (by kernel_rfl)), (h3 48 (by kernel_rfl)), (h3 49 (by kernel_rfl)), (h3 50 (by kernel_rfl)), (h3 51 (by kernel_rfl)), (h3 52 (by kernel_rfl)), (h3 53 (by kernel_rfl)), (h3 54 (by kernel_rfl)), (h3 55 (by kernel_rfl)), (h3 56 (by kernel_rfl)), (h3 57 (by kernel_rfl)), (h3 58 (by kernel_rfl)), (h3 59 (by kernel_rfl)), rfl, rfl, rfl, rfl, rfl, (h3 65 (by kernel_rfl)), (h3 66 (by kernel_rfl)), (h3 67 (by kernel_rfl)), (h3 68 (by kernel_rfl)), (h3 69 (by kernel_rfl)), (h3 70 (by kernel_rfl)), (h3 71 (by kernel_rfl)), (h3 72 (by kernel_rfl)), (h3 73 (by kernel_rfl)), (h3 74 (by kernel_rfl)), (h3 75 (by kernel_rfl)), (h3 76 (by kernel_rfl)), trivial⟩
        rw [ha]
        have HH : Hid (w'.ownsRow w12.heap.size 3 1 h0 rows.length (ints rows)) := hide (by rw [← HU.out]; exact HO.out)
        have HB14 := hide (HB12.out.trans (hS.2.mono HB12.out.size))
        have HG9 := hide (inRow_below HG7.out hS.2); have HU11 := hide (own_below HU9.out hS.2)
        obtain ⟨w14, hw14⟩ : ∃ w14, w14 = w' := ⟨_, rfl⟩
        rw [← hw14] at HH HB14 HG9 HU11 ⊢
        clear hw14 HU HO h1 h2 h3 h4 hS hst ha hK
        generalize a'.tmps.getD 12 undef = q12
        generalize a'.tmps.getD 60 undef = q60
        generalize a'.tmps.getD 61 undef = q61
        generalize a'.tmps.getD 62 undef = q62
        generalize a'.tmps.getD 63 undef = q63
        generalize a'.tmps.getD 64 undef = q64
        go_wp2_with fail
        refine (eqIntS_same h0 u0 rows _ (inRow_own HH.out) (inRow_own HU11.out)).mono ?_
        rintro e w15 ⟨rfl, hb15⟩
        have HG10 := hide (inRow_below HG9.out hb15); have HB15 := hide (HB14.out.trans (hb15.mono HB14.out.size))
        clear hb15
        go_wp2_with fail
        refine (heldIntS_any rows.length 1 g0 _ (by omega) (by omega) HG10.out).mono ?_
        rintro e w16 ⟨rfl, hb16⟩
        have HB16 := hide (HB15.out.trans (hb16.mono HB15.out.size))
        clear hb16
        go_wp2
        go_ret
        exact ⟨rfl, HB16.out⟩
theorem lawLineSums_walk (a : Option Addr) (n c : Nat) (m : List (List Int)) (dx dy : Int) (w : World) (hin : InMat w (.slice a n c) m) :
    Calls Try.prog 8 #[.slice a n c, .agg #[.int .i64 dx, .int .i64 dy]] w fun e w' => e = .returned (.bool true) ∧ Below w.heap.size w w' := by
  cases h : okB m with
  | false => exact lawLineSums_gen a n c m dx dy w hin [] (by decide) (fun v w hv => specLineSums_img v m dx dy w hv h) (fun v w hv => implLineSums_img v m dx dy w hv h)
  | true =>
    cases hd : dirOk dx dy with
    | false => exact lawLineSums_gen a n c m dx dy w hin [] (by decide) (fun v w hv => specLineSums_dir v m dx dy w hv h hd) (fun v w hv => implLineSums_dir v m dx dy w hv h hd)
    | true =>
      obtain ⟨R, C, f, rfl, hI⟩ := ok_img h
      obtain ⟨N, hN, hN2⟩ := countL_nat (near_of hd) hI
      exact lawLineSums_gen a n c _ dx dy w hin (lineRow R C f dx dy N) (by rw [lineRow, rowF_len]; omega) (fun v w hv => specLineSums_yes v R C N f dx dy w hv hI hd hN hN2) (fun v w hv => implLineSums_yes v R C N f dx dy w hv hI hd hN hN2)
end Go.Proofs.Yteogbddbafkieaa
