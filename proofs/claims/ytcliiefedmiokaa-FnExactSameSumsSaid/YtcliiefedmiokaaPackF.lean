/-
  Texts of this claim, one behind the other: LawsL, LawsLS, Cancel, Swap, Agg, Que.
-/
import Derived.Test.YtcliiefedmiokaaPackC
import Derived.Test.YtcliiefedmiokaaPackE
import Derived.Test.YtcliiefedmiokaaPackD
import Derived.Test.YtcliiefedmiokaaPackA
import Derived.Great.BuildSlice
import Derived.Deep.AppendLies
import Derived.ArgAppend
/-
  The exact laws on directions and line numbers, walked.
-/
namespace Go.Proofs.Ytcliiefedmiokaa
open Go.RowKit
set_option linter.unusedVariables false

/-- A direction of the laws in a variable. -/
def LDirAt (w : World) (g : Nat) (dx dy : Int) : Prop := w.heap[g]? = some (.cells #[.int .i64 dx, .int .i64 dy] 32 (0, 0))
theorem ldirAt_below {w w' : World} {g : Nat} {dx dy : Int} (h : LDirAt w g dx dy) (hb : Below w.heap.size w w') : LDirAt w' g dx dy := by
  unfold LDirAt; rw [hb.block g (Array.getElem?_eq_some_iff.1 h).1]; exact h
theorem Try.sizeLDir : (Try.prog.info? 32).map (·.size) = some 2 := by kernel_rfl
theorem wpList_loadLDir {ops : Array Oper} {rest : List Oper} {o : Oper} {a : Act} {Q : Exit → Act → World → Prop} {W : World} {g : Nat} {dx dy : Int} (hb : LDirAt W g dx dy)
    (hgd : o.guard = none) (x : Operand) (ho : o.op = .load 32 x) (hx : a.eval x = .pointer (some ⟨g, 0, none⟩))
    (h : wpList Try.prog ops Q rest (a.put o.dst (.agg #[.int .i64 dx, .int .i64 dy])) W) : wpList Try.prog ops Q (o :: rest) a W :=
  wpList_load_row hgd _ x ho g hx _ _ (0, 0) _ hb Try.underlying32 rfl Try.sizeLDir h

end Go.Proofs.Ytcliiefedmiokaa
/-
  The exact law on LineSums, walked.
-/
namespace Go.Proofs.Ytcliiefedmiokaa
open Go.RowKit
set_option linter.unusedVariables false

theorem exec_loadLDir {ρ : Operand → Value} {o : Oper} {w : World} {x : Operand} {g : Nat} {dx dy : Int} (ho : o.op = .load 32 x) (hx : ρ x = .pointer (some ⟨g, 0, none⟩)) (hd : LDirAt w g dx dy) :
    (execOp ρ o).run Try.prog w = .ok (.value (.agg #[.int .i64 dx, .int .i64 dy])) w := by
  unfold execOp
  simp only [ho, hx, Instr.loadAt, Instr.sureAddr, Sem.run_bind, Sem.run_pure, Result.andThen_ok, run_loadVar_row w g _ _ _ _ _ hd Try.underlying32 rfl Try.sizeLDir]
theorem ldir_block {w w' : World} {g : Nat} {dx dy : Int} (h : LDirAt w g dx dy) (e : w'.heap[g]? = w.heap[g]?) : LDirAt w' g dx dy := e.trans h
def inM' (m : List (List Int)) : FactP := fun u w => InMat w u m
theorem stable_m (m : List (List Int)) : StableP (inM' m) := fun _ _ _ hb h => inMat_below h hb
def ownI (B : Nat) (rows : List Int) : FactP := fun u w => w.ownsRow B 3 1 u rows.length (ints rows)
theorem stable_o (B : Nat) (rows : List Int) : StableP (ownI B rows) := fun _ _ _ hb h => own_below h hb

set_option maxRecDepth 100000 in
set_option maxHeartbeats 4000000 in
theorem lawLineSums_gen (a : Option Addr) (n c : Nat) (m : List (List Int)) (dx dy : Int) (w : World) (hin : InMat w (.slice a n c) m) (rows : List Int) (hrows : rows.length ≤ 1000000)
    (hs : ∀ v w, InMat w v m → Calls Try.prog 23 #[v, .agg #[.int .i64 dx, .int .i64 dy]] w (IntsRes rows w))
    (hi : ∀ v w, InMat w v m → Calls Try.prog 25 #[v, .agg #[.int .i64 dx, .int .i64 dy]] w (IntsRes rows w)) :
    Calls Try.prog 5 #[.slice a n c, .agg #[.int .i64 dx, .int .i64 dy]] w fun e w' => e = .returned (.bool true) ∧ Below w.heap.size w w' := by
  have hb0 := (Below.refl w.heap.size w).alloc (Nat.le_refl _) (.cells #[.int .i64 dx, .int .i64 dy] 32)
  have HI := hide hin; have HI0 := hide (inMat_below hin hb0); have HS := hide hs; have HM := hide hi
  have HB0 := hide hb0
  have HD0 := hide (show LDirAt (w.alloc (.cells #[.int .i64 dx, .int .i64 dy] 32)) w.heap.size dx dy from heap_alloc_new w _)
  clear hin hs hi hb0
  go_enter Try.func5, Try.ntmps5
  go_wp2_with fail
  refine (szIntSS_any _ m 1048576 _ (by omega) HI0.out).mono ?_
  rintro e w1 ⟨r, rfl, hr, hb1⟩
  have HB1 := hide (HB0.out.trans (hb1.mono HB0.out.size)); have HD1 := hide (ldirAt_below HD0.out hb1)
  clear hb1
  rcases hr with rfl | ⟨hsz, rfl⟩
  · go_wp2
    go_ret
    exact ⟨rfl, HB1.out⟩
  · go_upto_region 5 with fail
    obtain ⟨fs, hfs⟩ : ∃ fs : List FactP, fs = [isV (.slice a n c), inM' m, isV (.agg #[.int .i64 dx, .int .i64 dy]), isV (.agg #[.int .i64 dx, .int .i64 dy]), ownI w1.heap.size rows] := ⟨_, rfl⟩
    have hst : ∀ f ∈ fs, StableP f := by
      rw [hfs]; intro f hf
      simp only [List.mem_cons, List.not_mem_nil, or_false] at hf
      rcases hf with rfl | rfl | rfl | rfl | rfl <;> first | exact stable_v _ | exact stable_m _ | exact stable_o _ _
    subst hfs
    refine wp_region_tail (S := fun w2 => LDirAt w2 w.heap.size dx dy ∧ Below w1.heap.size w1 w2) [isV (.slice a n c), inM' m, isV (.agg #[.int .i64 dx, .int .i64 dy]), isV (.agg #[.int .i64 dx, .int .i64 dy]), ownI w1.heap.size rows] [(0, .slice a n c), (3, .pointer (some ⟨w.heap.size, 0, none⟩))] _ _ 5 (by kernel_rfl) rfl rfl (by kernel_rfl) (by kernel_rfl) rfl (by kernel_rfl) ?base ⟨HD1.out, below_drew (Below.refl _ _)⟩ ?ob rfl ?fin
    case base =>
      intro t v ht
      simp only [List.lookup_cons, List.lookup_nil] at ht
      repeat' split at ht
      all_goals first | (cases ht; done) | (obtain rfl := Option.some.inj ht; rename_i hh; obtain rfl := eq_of_beq hh; rfl)
    case ob =>
      exact ⟨obt_move (.slice a n c) rfl rfl rfl (srt_b 0 rfl),
        obt_call hst [.slice a n c] rfl Try.func14 (by kernel_rfl) (by kernel_rfl) rfl ⟨(srt_j 0 rfl (by kernel_rfl) rfl), trivial⟩ (fun w2 hS => (toIntSS_any _ m _ (by omega) (inMat_below HI.out (HB1.out.trans (hS.2.mono HB1.out.size)))).mono fun e w3 ⟨u, he, ho, hh⟩ => ⟨_, he, ⟨ldirAt_below hS.1 hh, hS.2.trans (hh.mono hS.2.size)⟩, hh, inMat_own ho⟩),
        obt_one (.agg #[.int .i64 dx, .int .i64 dy]) rfl rfl (srt_b 3 rfl) (fun ρ w2 hS hx => exec_loadLDir rfl hx hS.1),
        obt_call hst [.agg #[.int .i64 dx, .int .i64 dy]] rfl Try.func24 (by kernel_rfl) (by kernel_rfl) rfl ⟨(srt_j 2 rfl (by kernel_rfl) rfl), trivial⟩ (fun w2 hS => (toDirection_any dx dy _).mono fun e w3 ⟨he, hh⟩ => ⟨_, he, ⟨ldirAt_below hS.1 hh, hS.2.trans (hh.mono hS.2.size)⟩, hh, rfl⟩),
        obt_call_l hst 1 rfl Try.func23 (by kernel_rfl) (by kernel_rfl) rfl rfl (by kernel_rfl) (srt_j 3 rfl (by kernel_rfl) rfl) (fun v w2 hS hf => (HS.out v _ hf).mono fun e w3 ⟨u, he, ho, hh⟩ => ⟨_, he, ⟨ldirAt_below hS.1 hh, hS.2.trans (hh.mono hS.2.size)⟩, hh, own_base ho hS.2.size⟩),
        trivial⟩
    case fin =>
      intro a' w' h1 h2 h3 hS h4 K hK
      obtain ⟨u0, HU⟩ : ∃ u, Hid (a'.eval (.tmp 22) = u) := ⟨_, hide rfl⟩
      have HO := hide (h4 4 22 rfl (by decide))
      refine tail_assign rfl HU.out ?_ K hK
      have ha : a' = ⟨List.toArray [.slice a n c, .agg #[.int .i64 dx, .int .i64 dy], undef, .pointer (some ⟨w.heap.size, 0, none⟩), .bool false, .int .i64 (1048576 - m.length - cellsM m : Nat), a'.tmps.getD 6 undef, undef, undef, undef, undef, undef, undef, .slice a n c, .int .i64 1048576, .int .i64 (1048576 - m.length - cellsM m : Nat), .int .i64 (1048576 - m.length - cellsM m : Nat), .bool (decide (((1048576 - m.length - cellsM m : Nat) : Int) < 0)), a'.tmps.getD 18 undef, a'.tmps.getD 19 undef, a'.tmps.getD 20 undef, a'.tmps.getD 21 undef, a'.tmps.getD 22 undef, undef, undef, undef, undef, undef, undef, undef, undef, undef, undef, undef, undef, undef, undef, undef, undef, undef, undef, undef, undef, undef, undef, undef, undef, undef, undef, undef, undef, undef, undef, undef, undef, undef, undef, undef, undef, undef, undef, undef, undef, undef, undef, undef, undef, undef, undef, undef, undef, undef, undef, undef, undef, undef, undef], []⟩ := frame_eq _ h1 h2 ⟨(h3 0 (by kernel_rfl)), (h3 1 (by kernel_rfl)), (h3 2 (by kernel_rfl)), (h3 3 (by kernel_rfl)), (h3 4 (by kernel_rfl)), (h3 5 (by kernel_rfl)), rfl, (h3 7 (by kernel_rfl)), (h3 8 (by kernel_rfl)), (h3 9 (by kernel_rfl)), (h3 10 (by kernel_rfl)), (h3 11 (by kernel_rfl)), (h3 12 (by kernel_rfl)), (h3 13 (by kernel_rfl)), (h3 14 (by kernel_rfl)), (h3 15 (by kernel_rfl)), (h3 16 (by kernel_rfl)), (h3 17 (by kernel_rfl)), rfl, rfl, rfl, rfl, rfl, (h3 23 (by kernel_rfl)), (h3 24 (by kernel_rfl)), (h3 25 (by kernel_rfl)), (h3 26 (by kernel_rfl)), (h3 27 (by kernel_rfl)), (h3 28 (by kernel_rfl)), (h3 29 (by kernel_rfl)), (h3 30 (by kernel_rfl)), (h3 31 (by kernel_rfl)), (h3 32 (by kernel_rfl)), (h3 33 (by kernel_rfl)), (h3 34 (by kernel_rfl)), (h3 35 (by kernel_rfl)), (h3 36 (by kernel_rfl)), (h3 37 (by kernel_rfl)), (h3 38 (by kernel_rfl)), (h3 39 (by kernel_rfl)), (h3 40 (by kernel_rfl)), (h3 41 (by kernel_rfl)), (h3 42 (by kernel_rfl)), (h3 43 (by kernel_rfl)), (h3 44 (by kernel_rfl)), (h3 45 (by kernel_rfl)), (h3 46 (by kernel_rfl)), (h3 47 (by kernel_rfl)), (h3 48 (by kernel_rfl)), (h3 49 (by kernel_rfl)), (h3 50 (by kernel_rfl)), (h3 51 (by kernel_rfl)), (h3 52 (by kernel_rfl)), (h3 53 (by kernel_rfl)), (h3 54 (by kernel_rfl)), (h3 55 (by kernel_rfl)), (h3 56 (by kernel_rfl)), (h3 57 (by kernel_rfl)), (h3 58 (by kernel_rfl)), (h3 59 (by kernel_rfl)), (h3 60 (by kernel_rfl)), (h3 61 (by kernel_rfl)), (h3 62 (by kernel_rfl)), (h3 63 (by kernel_rfl)), (h3 64 (by kernel_rfl)), (h3 65 (by kernel_rfl)), (h3 66 (by kernel_rfl)), (h3 67 (by kernel_rfl)), (h3 68 (by kernel_rfl)), (h3 69 (by kernel_rfl)), (h3 70 (by kernel_rfl)), (h3 71 (by kernel_rfl)), (h3 72 (by kernel_rfl)), (h3 73 (by kernel_rfl)), (h3 74 (by kernel_rfl)), (h3 75 (by kernel_rfl)), (h3 76 (by kernel_rfl)), trivial⟩
      rw [ha]
      have HU0 : Hid (w'.ownsRow w1.heap.size 3 1 u0 rows.length (ints rows)) := hide (by rw [← HU.out]; exact HO.out)
      have HUL := hide (fun k e => (HU0.out.lt k e).2)
      have HB3 := hide (HB1.out.trans (hS.2.mono HB1.out.size)); have HD3 := hide hS.1
      have hdl := (Array.getElem?_eq_some_iff.1 HD3.out).1
      obtain ⟨w3, hw3⟩ : ∃ w3, w3 = w' := ⟨_, rfl⟩
      rw [← hw3] at HU0 HUL HB3 HD3 hdl ⊢
      clear hw3 HU HO h1 h2 h3 h4 hS hst ha hK
      generalize a'.tmps.getD 6 undef = p6
      generalize a'.tmps.getD 18 undef = p18
      generalize a'.tmps.getD 19 undef = p19
      generalize a'.tmps.getD 20 undef = p20
      generalize a'.tmps.getD 21 undef = p21
      generalize a'.tmps.getD 22 undef = p22
      go_wp2_with fail
      refine (toIntSS_any _ m _ (by omega) (inMat_below HI.out HB3.out)).mono ?_
      rintro e w4 ⟨v4, rfl, ho4, hb4⟩
      have HO4 := hide ho4; have HU1 := hide (own_below HU0.out hb4); have HB4 := hide (HB3.out.trans (hb4.mono HB3.out.size)); have HD4 := hide (ldirAt_below HD3.out hb4); have hs4 := hb4.size; clear ho4 hb4
      go_wp2_with (with_reducible refine wpList_loadLDir HD4.out rfl _ rfl rfl ?_)
      refine (toDirection_any dx dy _).mono ?_
      rintro e w40 ⟨rfl, hb40⟩
      have HO40 := hide (ownMat_below HO4.out hb40); have HU40 := hide (own_below HU1.out hb40); have HB40 := hide (HB4.out.trans (hb40.mono HB4.out.size)); have HD40 := hide (ldirAt_below HD4.out hb40); have hs40 := hb40.size; clear hb40
      go_wp2_with fail
      refine (HM.out v4 _ (inMat_own HO40.out)).mono ?_
      rintro e w5 ⟨g0, rfl, ho5, hb5⟩
      have HG0 := hide (own_base (base' := w4.heap.size) ho5 hs40); have HO5 := hide (ownMat_below HO40.out hb5); have HU2 := hide (own_below HU40.out hb5); have HB5 := hide (HB40.out.trans (hb5.mono HB40.out.size)); have HD5 := hide (ldirAt_below HD40.out hb5)
      have hs5 := hb5.size; clear ho5 hb5
      go_wp2_with fail
      refine (eqIntS_same g0 u0 rows _ (inRow_own HG0.out) (inRow_own HU2.out)).mono ?_
      rintro e w6 ⟨rfl, hb6⟩
      have HD6 := hide (ldirAt_below HD5.out hb6); have HG1 := hide (own_below HG0.out hb6); have HO6 := hide (ownMat_below HO5.out hb6); have HU3 := hide (own_below HU2.out hb6); have HB6 := hide (HB5.out.trans (hb6.mono HB5.out.size))
      have hs6 := hb6.size; clear hb6
      go_wp2_with fail
      refine (toIntSS_any _ m _ (by omega) (inMat_below HI.out HB6.out)).mono ?_
      rintro e w7 ⟨v7, rfl, ho7, hb7⟩
      have HD7 := hide (ldirAt_below HD6.out hb7); have HV7 := hide ho7; have HG2 := hide (own_below HG1.out hb7); have HO7 := hide (ownMat_below HO6.out hb7); have HU4 := hide (own_below HU3.out hb7); have HB7 := hide (HB6.out.trans (hb7.mono HB6.out.size))
      have hs7 := hb7.size; clear ho7 hb7
      go_wp2_with fail
      refine (eqIntSS_same v4 v7 m _ (inMat_own HO7.out) (inMat_own HV7.out)).mono ?_
      rintro e w8 ⟨rfl, hb8⟩
      have HD8 := hide (ldirAt_below HD7.out hb8); have HG3 := hide (own_below HG2.out hb8); have HO8 := hide (ownMat_below HO7.out hb8); have HU5 := hide (own_below HU4.out hb8); have HB8 := hide (HB7.out.trans (hb8.mono HB7.out.size))
      have hs8 := hb8.size; clear hb8
      go_wp2_with fail
      refine (markIntSS_any m 1 _ _ v4 _ (by omega) (by omega) HO8.out).mono ?_
      rintro e w9 ⟨rfl, -, hw9⟩
      have HG4 := hide (own_within HG3.out hw9 (fun k e => .inr (HG3.out.lt k e).1)); have HU6 := hide (own_within HU5.out hw9 (fun k e => .inl (HUL.out k e))); have HB9 := hide (HB8.out.trans (below_within hw9 HB3.out.size HB8.out.size))
      have HD9 : Hid (LDirAt _ _ dx dy) := hide (ldir_block HD8.out (hw9.block _ (Array.getElem?_eq_some_iff.1 HD8.out).1 (.inl hdl)))
      have hs9 := hw9.size; clear hw9
      go_wp2_with fail
      refine (eqIntS_same g0 u0 rows _ (inRow_own HG4.out) (inRow_own HU6.out)).mono ?_
      rintro e w10 ⟨rfl, hb10⟩
      have HD10 := hide (ldirAt_below HD9.out hb10); have HG5 := hide (own_below HG4.out hb10); have HU7 := hide (own_below HU6.out hb10); have HB10 := hide (HB9.out.trans (hb10.mono HB9.out.size))
      have hs10 := hb10.size; clear hb10
      go_wp2_with fail
      refine (markIntS_any rows.length 1 g0 _ _ _ (by omega) (by omega) HG5.out).mono ?_
      rintro e w11 ⟨rfl, ho11, hg11⟩
      have HNE : Hid (u0.ownBlock = none ∨ u0.ownBlock ≠ g0.ownBlock) := hide (by
        cases e0 : u0.ownBlock with
        | none => exact .inl rfl
        | some k =>
          refine .inr fun e1 => ?_
          have q1 := HUL.out k e0
          have q2 := (HG5.out.lt k e1.symm).1
          omega)
      have HG6 := hide (inRow_own (r := markR rows.length 1) (by rw [markR_len]; exact ho11)); have HU8 := hide (HU7.out.kept hg11 HNE.out)
      have HB11 := hide (HB10.out.trans (grown_below hg11 (fun k hk => by have := (HG5.out.lt k hk).1; have := HB4.out.size; omega) HB10.out.size))
      have HD11 : Hid (LDirAt _ _ dx dy) := hide (ldir_block HD10.out (hg11.block _ (Array.getElem?_eq_some_iff.1 HD10.out).1 (fun e => by have := (HG5.out.lt _ e.symm).1; omega)))
      clear ho11 hg11
      go_wp2_with fail
      refine (heldIntS_any rows.length 1 g0 _ (by omega) (by omega) HG6.out).mono ?_
      rintro e w12 ⟨rfl, hb12⟩
      have HD12 := hide (ldirAt_below HD11.out hb12); have HG7 := hide (inRow_below HG6.out hb12); have HU9 := hide (own_below HU8.out hb12); have HB12 := hide (HB11.out.trans (hb12.mono HB11.out.size))
      clear hb12
      go_upto_region 24 with fail
      obtain ⟨fs, hfs⟩ : ∃ fs : List FactP, fs = [isV (.slice a n c), inM' m, isV (.agg #[.int .i64 dx, .int .i64 dy]), isV (.agg #[.int .i64 dx, .int .i64 dy]), ownI w12.heap.size rows] := ⟨_, rfl⟩
      have hst : ∀ f ∈ fs, StableP f := by
        rw [hfs]; intro f hf
        simp only [List.mem_cons, List.not_mem_nil, or_false] at hf
        rcases hf with rfl | rfl | rfl | rfl | rfl <;> first | exact stable_v _ | exact stable_m _ | exact stable_o _ _
      subst hfs
      refine wp_region_tail (S := fun w2 => LDirAt w2 w.heap.size dx dy ∧ Below w12.heap.size w12 w2) [isV (.slice a n c), inM' m, isV (.agg #[.int .i64 dx, .int .i64 dy]), isV (.agg #[.int .i64 dx, .int .i64 dy]), ownI w12.heap.size rows] [(0, .slice a n c), (3, .pointer (some ⟨w.heap.size, 0, none⟩))] _ _ 5 (by kernel_rfl) rfl rfl (by kernel_rfl) (by kernel_rfl) rfl (by kernel_rfl) ?base ⟨HD12.out, below_drew (Below.refl _ _)⟩ ?ob rfl ?fin
      case base =>
        intro t v ht
        simp only [List.lookup_cons, List.lookup_nil] at ht
        repeat' split at ht
        all_goals first | (cases ht; done) | (obtain rfl := Option.some.inj ht; rename_i hh; obtain rfl := eq_of_beq hh; rfl)
      case ob =>
        exact ⟨obt_move (.slice a n c) rfl rfl rfl (srt_b 0 rfl),
          obt_call hst [.slice a n c] rfl Try.func14 (by kernel_rfl) (by kernel_rfl) rfl ⟨(srt_j 0 rfl (by kernel_rfl) rfl), trivial⟩ (fun w2 hS => (toIntSS_any _ m _ (by omega) (inMat_below HI.out (HB12.out.trans (hS.2.mono HB12.out.size)))).mono fun e w3 ⟨u, he, ho, hh⟩ => ⟨_, he, ⟨ldirAt_below hS.1 hh, hS.2.trans (hh.mono hS.2.size)⟩, hh, inMat_own ho⟩),
          obt_one (.agg #[.int .i64 dx, .int .i64 dy]) rfl rfl (srt_b 3 rfl) (fun ρ w2 hS hx => exec_loadLDir rfl hx hS.1),
          obt_call hst [.agg #[.int .i64 dx, .int .i64 dy]] rfl Try.func24 (by kernel_rfl) (by kernel_rfl) rfl ⟨(srt_j 2 rfl (by kernel_rfl) rfl), trivial⟩ (fun w2 hS => (toDirection_any dx dy _).mono fun e w3 ⟨he, hh⟩ => ⟨_, he, ⟨ldirAt_below hS.1 hh, hS.2.trans (hh.mono hS.2.size)⟩, hh, rfl⟩),
          obt_call_l hst 1 rfl Try.func25 (by kernel_rfl) (by kernel_rfl) rfl rfl (by kernel_rfl) (srt_j 3 rfl (by kernel_rfl) rfl) (fun v w2 hS hf => (HM.out v _ hf).mono fun e w3 ⟨u, he, ho, hh⟩ => ⟨_, he, ⟨ldirAt_below hS.1 hh, hS.2.trans (hh.mono hS.2.size)⟩, hh, own_base ho hS.2.size⟩),
          trivial⟩
      case fin =>
        intro a' w' h1 h2 h3 hS h4 K hK
        obtain ⟨h0, HU⟩ : ∃ u, Hid (a'.eval (.tmp 64) = u) := ⟨_, hide rfl⟩
        have HO := hide (h4 4 64 rfl (by decide))
        refine tail_assign rfl HU.out ?_ K hK
        have ha : a' = ⟨List.toArray [.slice a n c, .agg #[.int .i64 dx, .int .i64 dy], undef, .pointer (some ⟨w.heap.size, 0, none⟩), .bool false, .int .i64 (1048576 - m.length - cellsM m : Nat), u0, v4, g0, .int .i64 (1 + (cellsM m : Nat)), .int .i64 (1 + (rows.length : Nat)), .int .i64 (1 + (rows.length : Nat)), a'.tmps.getD 12 undef, .slice a n c, .int .i64 1048576, .int .i64 (1048576 - m.length - cellsM m : Nat), .int .i64 (1048576 - m.length - cellsM m : Nat), .bool (decide (((1048576 - m.length - cellsM m : Nat) : Int) < 0)), p18, p19, p20, p21, p22, .slice a n c, v4, v4, .agg #[.int .i64 dx, .int .i64 dy], .agg #[.int .i64 dx, .int .i64 dy], g0, g0, u0, .bool true, .bool false, v4, .slice a n c, v7, .bool true, .bool false, v4, .int .i64 1, .int .i64 (1 + (cellsM m : Nat)), .int .i64 (1 + (cellsM m : Nat)), .bool (decide ((1 + (cellsM m : Nat) : Int) < 0)), .bool (decide ((1 + (cellsM m : Nat) : Int) < 0)), g0, u0, .bool true, .bool false, .bool (decide ((1 + (cellsM m : Nat) : Int) < 0)), g0, .int .i64 1, .int .i64 (1 + (rows.length : Nat)), g0, .int .i64 1, .int .i64 (1 + (rows.length : Nat)), .int .i64 (1 + (rows.length : Nat)), .bool (decide ((1 + (rows.length : Nat) : Int) < 0)), .int .i64 (1 + (rows.length : Nat)), .int .i64 (1 + (rows.length : Nat)), .bool false, a'.tmps.getD 60 undef, a'.tmps.getD 61 undef, a'.tmps.getD 62 undef, a'.tmps.getD 63 undef, a'.tmps.getD 64 undef, undef, undef, undef, undef, undef, undef, undef, undef, undef, undef, undef, undef], []⟩ := frame_eq _ h1 h2 ⟨(h3 0 (by kernel_rfl)), (h3 1 (by kernel_rfl)), (h3 2 (by kernel_rfl)), (h3 3 (by kernel_rfl)), (h3 4 (by kernel_rfl)), (h3 5 (by kernel_rfl)), (h3 6 (by kernel_rfl)), (h3 7 (by kernel_rfl)), (h3 8 (by kernel_rfl)), (h3 9 (by kernel_rfl)), (h3 10 (by kernel_rfl)), (h3 11 (by kernel_rfl)), rfl, (h3 13 (by kernel_rfl)), (h3 14 (by kernel_rfl)), (h3 15 (by kernel_rfl)), (h3 16 (by kernel_rfl)), (h3 17 (by kernel_rfl)), (h3 18 (by kernel_rfl)), (h3 19 (by kernel_rfl)), (h3 20 (by kernel_rfl)), (h3 21 (by kernel_rfl)), (h3 22 (by kernel_rfl)), (h3 23 (by kernel_rfl)), (h3 24 (by kernel_rfl)), (h3 25 (by kernel_rfl)), (h3 26 (by kernel_rfl)), (h3 27 (by kernel_rfl)), (h3 28 (by kernel_rfl)), (h3 29 (by kernel_rfl)), (h3 30 (by kernel_rfl)), (h3 31 (by kernel_rfl)), (h3 32 (by kernel_rfl)), (h3 33 (by kernel_rfl)), (h3 34 (by kernel_rfl)), (h3 35 (by kernel_rfl)), (h3 36 (by kernel_rfl)), (h3 37 (by kernel_rfl)), (h3 38 (by kernel_rfl)), (h3 39 (by kernel_rfl)), (h3 40 (by kernel_rfl)), (h3 41 (by kernel_rfl)), (h3 42 (by kernel_rfl)), (h3 43 (by kernel_rfl)), (h3 44 (by kernel_rfl)), (h3 45 (by kernel_rfl)), (h3 46 (by kernel_rfl)), (h3 47 (by kernel_rfl)), (h3 48 (by kernel_rfl)), (h3 49 (by kernel_rfl)), (h3 50 (by kernel_rfl)), (h3 51 (by kernel_rfl)), (h3 52 (by kernel_rfl)), (h3 53 (by kernel_rfl)), (h3 54 (by kernel_rfl)), (h3 55 (by kernel_rfl)), (h3 56 (by kernel_rfl)), (h3 57 (by kernel_rfl)), (h3 58 (by kernel_rfl)), (h3 59 (by kernel_rfl)), rfl, rfl, rfl, rfl, rfl, (h3 65 (by kernel_rfl)), (h3 66 (by kernel_rfl)), (h3 67 (by kernel_rfl)), (h3 68 (by kernel_rfl)), (h3 69 (by kernel_rfl)), (h3 70 (by kernel_rfl)), (h3 71 (by kernel_rfl)), (h3 72 (by kernel_rfl)), (h3 73 (by kernel_rfl)), (h3 74 (by kernel_rfl)), (h3 75 (by kernel_rfl)), (h3 76 (by kernel_rfl)), trivial⟩
        rw [ha]
        have HH : Hid (w'.ownsRow w12.heap.size 3 1 h0 rows.length (ints rows)) := hide (by rw [← HU.out]; exact HO.out)
        have HB14 := hide (HB12.out.trans (hS.2.mono HB12.out.size))
        have HG9 := hide (inRow_below HG7.out hS.2); have HU11 := hide (own_below HU9.out hS.2)
        obtain ⟨w14, hw14⟩ : ∃ w14, w14 = w' := ⟨_, rfl⟩
        rw [← hw14] at HH HB14 HG9 HU11 ⊢
        clear hw14 HU HO h1 h2 h3 h4 hS hst ha hK
        generalize a'.tmps.getD 12 undef = q12
        generalize a'.tmps.getD 60 undef = q60
        generalize a'.tmps.getD 61 undef = q61
        generalize a'.tmps.getD 62 undef = q62
        generalize a'.tmps.getD 63 undef = q63
        generalize a'.tmps.getD 64 undef = q64
        go_wp2_with fail
        refine (eqIntS_same h0 u0 rows _ (inRow_own HH.out) (inRow_own HU11.out)).mono ?_
        rintro e w15 ⟨rfl, hb15⟩
        have HG10 := hide (inRow_below HG9.out hb15); have HB15 := hide (HB14.out.trans (hb15.mono HB14.out.size))
        clear hb15
        go_wp2_with fail
        refine (heldIntS_any rows.length 1 g0 _ (by omega) (by omega) HG10.out).mono ?_
        rintro e w16 ⟨rfl, hb16⟩
        have HB16 := hide (HB15.out.trans (hb16.mono HB15.out.size))
        clear hb16
        go_wp2
        go_ret
        exact ⟨rfl, HB16.out⟩
theorem lawLineSums_walk (a : Option Addr) (n c : Nat) (m : List (List Int)) (dx dy : Int) (w : World) (hin : InMat w (.slice a n c) m) :
    Calls Try.prog 5 #[.slice a n c, .agg #[.int .i64 dx, .int .i64 dy]] w fun e w' => e = .returned (.bool true) ∧ Below w.heap.size w w' := by
  cases h : okB m with
  | false => exact lawLineSums_gen a n c m dx dy w hin [] (by decide) (fun v w hv => specLineSums_img v m dx dy w hv h) (fun v w hv => implLineSums_img v m dx dy w hv h)
  | true =>
    cases hd : dirOk dx dy with
    | false => exact lawLineSums_gen a n c m dx dy w hin [] (by decide) (fun v w hv => specLineSums_dir v m dx dy w hv h hd) (fun v w hv => implLineSums_dir v m dx dy w hv h hd)
    | true =>
      obtain ⟨R, C, f, rfl, hI⟩ := ok_img h
      obtain ⟨N, hN, hN2⟩ := countL_nat (near_of hd) hI
      exact lawLineSums_gen a n c _ dx dy w hin (lineRow R C f dx dy N) (by rw [lineRow, rowF_len]; omega) (fun v w hv => specLineSums_yes v R C N f dx dy w hv hI hd hN hN2) (fun v w hv => implLineSums_yes v R C N f dx dy w hv hI hd hN hN2)
end Go.Proofs.Ytcliiefedmiokaa
/-
  lineMap.cancel: one map of lines less another one.
-/
namespace Go.Proofs.Ytcliiefedmiokaa
open Go.RowKit Go.Maps
open Go.ChangeMaps (setBlock)

theorem grown_drew (w : World) (row : Option Nat) : w.grownBy w.drew row := ⟨rfl, rfl, rfl, Nat.le_refl _, fun _ _ _ => rfl⟩
theorem lr_cnt {w : World} {b r n : Nat} {A : Key → Bool} {F : Key → Int} {left : Key → Bool} {cnt : Nat} (h : LR w b r n A F left cnt) : cnt ≤ n := by
  obtain ⟨D, lf, ⟨es, clock, since, seen, c0, _, _, hs, _, _, _, hc, _⟩, -⟩ := h
  have : (leftOf es seen).size ≤ es.size := Array.size_filter_le
  omega
theorem exec_loadKey {ρ : Operand → Value} {o : Oper} {w : World} {x : Operand} {g : Nat} {k : Key} (ho : o.op = .load 121 x) (hx : ρ x = .pointer (some ⟨g, 0, none⟩)) (hd : w.heap[g]? = some (.cells #[.int .i64 k.x, .int .i64 k.y, .int .i64 k.n] 121 (0, 0))) :
    (execOp ρ o).run Try.prog w = .ok (.value (keyV k)) w := by
  unfold execOp keyV
  simp only [ho, hx, Instr.loadAt, Instr.sureAddr, Sem.run_bind, Sem.run_pure, Result.andThen_ok, run_loadVar_row w g _ _ _ _ _ hd Try.underlying121 rfl (show (Try.prog.info? 121).map (·.size) = some 3 by kernel_rfl)]
theorem wpList_loadKey {ops : Array Oper} {rest : List Oper} {o : Oper} {a : Act} {Q : Exit → Act → World → Prop} {W : World} {g : Nat} {k : Key} (hb : W.heap[g]? = some (.cells #[.int .i64 k.x, .int .i64 k.y, .int .i64 k.n] 121 (0, 0)))
    (hgd : o.guard = none) (x : Operand) (ho : o.op = .load 121 x) (hx : a.eval x = .pointer (some ⟨g, 0, none⟩))
    (h : wpList Try.prog ops Q rest (a.put o.dst (keyV k)) W) : wpList Try.prog ops Q (o :: rest) a W :=
  wpList_plain hgd fun _ hK => run_value _ (exec_loadKey ho hx hb) (hK _ _ h)

def CancelRes (b1 : Nat) (F1 F2 : Key → Int) (w : World) (e : Ending) (w' : World) : Prop :=
  ∃ nn, e = .returned (.tuple #[]) ∧ nn ≤ 200 ∧ LM w' b1 nn (thereK fun k => F1 k - F2 k) (fun k => F1 k - F2 k) ∧ w.grownBy w' (some b1)
/-- What has been taken away, as long as 'left' are still to come. -/
def lessK (A2 : Key → Bool) (F1 F2 : Key → Int) (left : Key → Bool) (k : Key) : Int := F1 k - if A2 k = true ∧ left k = false then F2 k else 0

set_option maxRecDepth 100000 in
set_option maxHeartbeats 4000000 in
theorem cancel_any (b1 b2 n1 n2 : Nat) (A2 : Key → Bool) (F1 F2 : Key → Int) (w : World) (h1 : LM w b1 n1 (thereK F1) F1) (h2 : LM w b2 n2 A2 F2) (hne : b1 ≠ b2) (hn1 : n1 ≤ 100) (hn2 : n2 ≤ 100) (hr1 : ∀ k, 0 ≤ F1 k ∧ F1 k ≤ 1000) (hr2 : ∀ k, 0 ≤ F2 k ∧ F2 k ≤ 1000) :
    Calls Try.prog 67 #[.map (some b1), .map (some b2)] w (CancelRes b1 F1 F2 w) := by
  have H1 := hide h1; have H2 := hide h2; have HR1 := hide hr1; have HR2 := hide hr2
  have hl1 := lm_lt h1; have hl2 := lm_lt h2
  clear h1 h2 hr1 hr2
  go_enter Try.func67, Try.ntmps67
  go_wp2_with (at_range; refine wpList_rangeLM w rfl _ rfl rfl H2.out ?_; intro w2 cnt hlr hb2 hs2; have HR := hide hlr; have HB := hide hb2; clear hlr hb2)
  obtain ⟨r, hr⟩ : ∃ r, r = w.heap.size := ⟨_, rfl⟩
  have HRR := hide hr
  rw [← hr] at HR hl1 hl2 hs2 ⊢
  clear hr
  go_frame
  go_loopw [4] (fun _ wr => ∃ (left : Key → Bool) (cnt nn : Nat), LR wr b2 r n2 A2 F2 left cnt ∧ LM wr b1 nn (thereK (lessK A2 F1 F2 left)) (lessK A2 F1 F2 left) ∧ nn + cnt ≤ n1 + n2 ∧ (∀ k : Key, left k = true → A2 k = true) ∧ w.grownBy wr (some b1)) (fun _ wr => wr.rangeLeft b2 r)
  case atStart =>
    refine ⟨A2, cnt, n1, HR.out, ?_, by have := lr_cnt HR.out; omega, fun k h => h, grown_of_below HB.out _⟩
    have e : ∀ k, lessK A2 F1 F2 A2 k = F1 k := fun k => by
      unfold lessK; rw [if_neg (fun h => by rw [h.1] at h; cases h.2)]; omega
    exact lm_congr (lm_below H1.out HB.out) (fun k _ => by unfold thereK; rw [e k]) (fun k _ => (e k).symm)
  case round =>
    obtain ⟨left, cnt', nn, hlr, hlm, hnn, hle, hg⟩ := hrel
    have HL := hide hlr; have HM := hide hlm; have HE := hide hle; have HG := hide hg
    have hrw := lr_lt hlr
    have hb1w := lm_lt hlm
    have hb2w := lm_lt (lr_owns hlr)
    clear hlr hlm hle hg
    go_wp2_with (at_next; refine wpList_nextLR wr rfl _ rfl rfl HL.out ?_ ?_)
    · intro hd
      have HD := hide hd
      clear hd
      go_wp2
      have e : ∀ k : Key, k.wf → lessK A2 F1 F2 left k = F1 k - F2 k := fun k hk => by
        unfold lessK
        rw [HD.out k hk]
        cases h : A2 k with
        | true => simp
        | false => rw [if_neg (fun h => by cases h.1), lm_absent H2.out hk h]
      exact bodyPost_end (v := .tuple #[]) (by simp [results, Try.results67]) rfl ⟨nn, rfl, by omega, lm_congr HM.out (fun k hk => by unfold thereK; rw [e k hk]) e, HG.out⟩
    · intro k w3 cnt3 hkw hlk hlr3 hlt hg3 hs3 hen
      have HLR3 := hide hlr3; have HKW := hide hkw; have HLK := hide hlk
      have hg3' := hg3
      obtain ⟨c, hc⟩ : ∃ c, c = F2 k := ⟨_, rfl⟩
      have HC := hide hc
      rw [← hc] at hen ⊢
      have hcb := HR2.out k
      rw [← hc] at hcb
      obtain ⟨hc0, hc1⟩ := hcb
      obtain ⟨kx, ky, kn⟩ := k
      unfold keyV at hen ⊢
      simp only at hen ⊢
      clear hlr3 hkw hlk hc hg3
      go_upto_region 3 with fail
      obtain ⟨k, hk⟩ : ∃ k : Key, k = ⟨kx, ky, kn⟩ := ⟨_, rfl⟩
      have HKE := hide hk
      rw [← hk] at HLR3 HKW HLK HC
      have HX : Hid (k.x = kx ∧ k.y = ky ∧ k.n = kn) := hide (by rw [hk]; exact ⟨rfl, rfl, rfl⟩)
      clear hk
      obtain ⟨G, hG⟩ : ∃ G, G = wr.heap.size := ⟨_, rfl⟩
      have hgen : ∃ w4, w4 = w3.alloc (.cells #[.int .i64 kx, .int .i64 ky, .int .i64 kn] 121) := ⟨_, rfl⟩
      obtain ⟨w4, hw4⟩ := hgen
      have hal : Below w3.heap.size w3 w4 := by rw [hw4]; exact (Below.refl _ _).alloc (Nat.le_refl _) _
      have hkc : w4.heap[G]? = some (.cells #[.int .i64 k.x, .int .i64 k.y, .int .i64 k.n] 121 (0, 0)) := by
        rw [hw4, hG, ← hs3, HX.out.1, HX.out.2.1, HX.out.2.2]; exact heap_alloc_new w3 _
      have HKC := hide hkc
      have HL4 := hide (lr_below HLR3.out hal)
      have HM4 := hide (lm_below (lm_grown HM.out hg3' (by simp; omega)) hal)
      have HG4 := hide (World.grownBy.andThen (World.grownBy.andThen HG.out hg3' (fun j hj => by cases hj; left; rw [HRR.out]; exact Nat.le_refl _)) (grown_of_below hal none) (fun j hj => by cases hj))
      rw [← hw4, ← hG]
      have hb1G : b1 < G := by rw [hG]; exact hb1w
      have hrG : r < G := by rw [hG]; exact hrw
      clear hal hkc hg3' hw4 hs3
      obtain ⟨E0, E1, st, hE0, hE⟩ := lm_ent HM4.out (by unfold maxLen; omega) HKW.out
      have HEn := hide hE; have HE0 := hide hE0
      clear hE hE0
      have hf : lessK A2 F1 F2 left k = F1 k := by
        unfold lessK; rw [if_neg (fun h => by rw [HLK.out] at h; cases h.2)]; omega
      have hfb := HR1.out k
      rw [← hf] at hfb
      obtain ⟨f, hff⟩ : ∃ f, f = lessK A2 F1 F2 left k := ⟨_, rfl⟩
      have HF := hide hff
      have HF1 : Hid (f = F1 k) := hide (by rw [hff, hf])
      rw [← hff] at hfb
      obtain ⟨hf0, hf1⟩ := hfb
      clear hff hf
      have l1 : IntKind.i64.wrap (f - c) = f - c := IntWalk.i64_in _ (by omega)
      obtain ⟨fs, hfs⟩ : ∃ fs : List FactP, fs = [isV (.map (some b1)), isV (keyV k), isV (.int .i64 f), isV (.int .i64 c), isV (.int .i64 (f - c)), isB (.tuple #[.int .i64 f, .int .i64 st]) b1 E1, isV (.int .i64 st)] := ⟨_, rfl⟩
      have hst : ∀ f ∈ fs, StableP f := by
        rw [hfs]; intro f hf
        simp only [List.mem_cons, List.not_mem_nil, or_false] at hf
        rcases hf with rfl | rfl | rfl | rfl | rfl | rfl | rfl <;> first | exact stable_v _ | exact stable_b _ _ _
      have hout : ∀ f ∈ fs, OutP b1 E1 f := by
        rw [hfs]; intro f hf
        simp only [List.mem_cons, List.not_mem_nil, or_false] at hf
        rcases hf with rfl | rfl | rfl | rfl | rfl | rfl | rfl <;> first | exact out_v _ _ _ | exact out_b _ _ _
      subst hfs
      refine wp_region_tail (S := fun w5 => w5.heap[G]? = some (.cells #[.int .i64 k.x, .int .i64 k.y, .int .i64 k.n] 121 (0, 0)) ∧ w4.grownBy w5 (some b1) ∧ (w5.heap[b1]? = some E0 ∨ w5.heap[b1]? = some E1)) [isV (.map (some b1)), isV (keyV k), isV (.int .i64 f), isV (.int .i64 c), isV (.int .i64 (f - c)), isB (.tuple #[.int .i64 f, .int .i64 st]) b1 E1, isV (.int .i64 st)] [(0, .map (some b1)), (4, .pointer (some ⟨G, 0, none⟩)), (5, .int .i64 c)] _ _ 7 (by kernel_rfl) rfl rfl (by kernel_rfl) (by kernel_rfl) rfl (by kernel_rfl) ?base ⟨HKC.out, grown_drew _ _, .inl HE0.out⟩ ?ob rfl ?fin
      case base =>
        intro t v ht
        simp only [List.lookup_cons, List.lookup_nil] at ht
        repeat' split at ht
        all_goals first | (cases ht; done) | (obtain rfl := Option.some.inj ht; rename_i hh; obtain rfl := eq_of_beq hh; rfl)
      case ob =>
        exact ⟨obt_move (.map (some b1)) rfl rfl rfl (srt_b 0 rfl),
          obt_one (keyV k) rfl rfl (srt_b 4 rfl) (fun ρ w2 hS hx => exec_loadKey rfl hx hS.1),
          obt_two (.int .i64 f) rfl rfl (srt_j 0 rfl (by kernel_rfl) rfl) (srt_j 1 rfl (by kernel_rfl) rfl) (fun ρ w2 hS hx hy => exec_lookupK rfl hx hy (by rw [HF.out]; exact HEn.out.look w2 hS.2.2)),
          obt_move (.int .i64 c) rfl rfl rfl (srt_b 5 rfl),
          obt_two (.int .i64 (f - c)) rfl rfl (srt_j 2 rfl (by kernel_rfl) rfl) (srt_j 3 rfl (by kernel_rfl) rfl) (fun ρ w2 hS hx hy => by go_simp),
          obt_entry (by have := HEn.out; exact this) rfl (by rw [HF.out]; rfl) rfl (srt_j 0 rfl (by kernel_rfl) rfl) (srt_j 1 rfl (by kernel_rfl) rfl) hout (fun w2 hS => hS.2.2) (fun w2 hS => ⟨(sb_other w2 E1 (by omega)).trans hS.1, grown_trans hS.2.1 (sb_grown w2 _ _), .inr (hS.2.2.elim sb_same sb_same)⟩),
          obt_stamp 5 rfl rfl rfl rfl (by kernel_rfl) rfl,
          trivial⟩
      case fin =>
        intro a' w' h1 h2 h3 hS h4 K hK
        have v13 : a'.tmps.getD 13 undef = .map (some b1) := h4 0 13 rfl (by decide)
        have v19 : a'.tmps.getD 19 undef = .int .i64 st := h4 6 19 rfl (by decide)
        have v17 : a'.tmps.getD 17 undef = .int .i64 (f - c) := h4 4 17 rfl (by decide)
        have hb1' : w'.heap[b1]? = some E1 := (h4 5 18 rfl (by decide)).2
        obtain ⟨E', hrun, hlm'⟩ := HEn.out.store w' (f - c) (WalkArith.wf_i64 (by omega)) hb1'
        refine run_skip (w' := setBlock w' b1 E') (exec_storeK rfl v13 v19 v17 hrun) (hK _ _ ?_)
        have HLE : Hid (∀ z : Key, lessK A2 F1 F2 (fun z => left z && !decide (z = k)) z = setK (lessK A2 F1 F2 left) k (f - c) z) := hide fun z => by
          unfold setK
          by_cases e : z = k
          · subst e
            rw [if_pos rfl]
            unfold lessK
            rw [if_pos ⟨HE.out z HLK.out, by simp⟩, HF1.out, HC.out]
          · rw [if_neg e]
            unfold lessK
            simp only [decide_eq_false e, Bool.not_false, Bool.and_true]
        have HEL : Hid (∀ z : Key, (left z && !decide (z = k)) = true → A2 z = true) := hide fun z hz => by rw [Bool.and_eq_true] at hz; exact HE.out z hz.1
        have HFK : Hid (setK (lessK A2 F1 F2 left) k (f - c) k = f - c) := hide (by unfold setK; rw [if_pos rfl])
        have HQ1 := hide hlm'
        have HQ2 : Hid ((setBlock w' b1 E').heap[G]? = some (.cells #[.int .i64 k.x, .int .i64 k.y, .int .i64 k.n] 121 (0, 0))) := hide ((sb_other w' E' (by omega)).trans hS.1)
        have hgg := grown_trans hS.2.1 (sb_grown w' b1 E')
        have HQ3 := hide (lr_grown HL4.out hgg (by simp; omega) (by simp; omega))
        have HQ4 := hide (grown_trans HG4.out hgg)
        have ha : a' = ⟨List.toArray [.map (some b1), .map (some b2), undef, undef, .pointer (some ⟨G, 0, none⟩), .int .i64 c, .map (some b2), .pointer (some ⟨r, 0, none⟩), .tuple #[.bool true, .agg #[.int .i64 kx, .int .i64 ky, .int .i64 kn], .int .i64 c], .bool true, .tuple #[.agg #[.int .i64 kx, .int .i64 ky, .int .i64 kn], .int .i64 c], .agg #[.int .i64 kx, .int .i64 ky, .int .i64 kn], .int .i64 c, a'.tmps.getD 13 undef, a'.tmps.getD 14 undef, a'.tmps.getD 15 undef, a'.tmps.getD 16 undef, a'.tmps.getD 17 undef, a'.tmps.getD 18 undef, a'.tmps.getD 19 undef, u20, u21, u22, u23, u24, u25], []⟩ := frame_eq _ h1 h2 ⟨(h3 0 (by kernel_rfl)), (h3 1 (by kernel_rfl)), (h3 2 (by kernel_rfl)), (h3 3 (by kernel_rfl)), (h3 4 (by kernel_rfl)), (h3 5 (by kernel_rfl)), (h3 6 (by kernel_rfl)), (h3 7 (by kernel_rfl)), (h3 8 (by kernel_rfl)), (h3 9 (by kernel_rfl)), (h3 10 (by kernel_rfl)), (h3 11 (by kernel_rfl)), (h3 12 (by kernel_rfl)), rfl, rfl, rfl, rfl, rfl, rfl, rfl, (h3 20 (by kernel_rfl)), (h3 21 (by kernel_rfl)), (h3 22 (by kernel_rfl)), (h3 23 (by kernel_rfl)), (h3 24 (by kernel_rfl)), (h3 25 (by kernel_rfl)), trivial⟩
        have hp : a'.put none undef = a' := rfl
        clear hrun hlm' hb1' v13 v19 v17 h1 h2 h3 h4 hS hst hout hgg
        refine (congrArg (fun q => Exit.then _ (Exit.inBlock 1 _) Exit.normal q (setBlock w' b1 E')) (hp.trans ha)).mpr ?_
        generalize a'.tmps.getD 13 undef = q13
        generalize a'.tmps.getD 14 undef = q14
        generalize a'.tmps.getD 15 undef = q15
        generalize a'.tmps.getD 16 undef = q16
        generalize a'.tmps.getD 17 undef = q17
        generalize a'.tmps.getD 18 undef = q18
        generalize a'.tmps.getD 19 undef = q19
        generalize setBlock w' b1 E' = w6 at HQ1 HQ2 HQ3 HQ4 ⊢
        clear hp ha l1 hG
        by_cases h0 : f - c = 0
        · have HZ := hide h0
          have HFK := hide (HFK.out.trans h0)
          clear h0
          go_wp2_with (first | (with_reducible refine wpList_loadKey HQ2.out rfl _ rfl rfl ?_) | ((with_reducible refine wpList_lookupLM w6 rfl _ _ rfl rfl rfl HQ1.out HKW.out ?_); rw [HFK.out]) | (at_delete; refine wpList_deleteLM w6 rfl _ _ rfl rfl rfl HQ1.out HKW.out ?_; intro w7 hd1 hd2 hd3; have HD1 := hide hd1; have HD2 := hide hd2; clear hd1 hd2 hd3))
        
          have HR7 := hide (lr_grown HQ3.out HD2.out (by simp; omega) (by simp; omega))
          have HG7 := hide (grown_trans HQ4.out HD2.out)
          have HM7 : Hid (LM w7 b1 (nn + 1) (thereK (lessK A2 F1 F2 (fun z => left z && !decide (z = k)))) (lessK A2 F1 F2 (fun z => left z && !decide (z = k)))) := hide (lm_congr HD1.out (fun z _ => by
            unfold thereK
            rw [HLE.out z]
            unfold setK
            by_cases e : z = k
            · simp only [if_pos e, HZ.out]; rfl
            · simp only [if_neg e]) (fun z _ => by
            rw [HLE.out z]
            unfold setK
            by_cases e : z = k
            · simp only [if_pos e, HZ.out]
            · simp only [if_neg e]))
          go_frame
          go_roundw
          case rel => exact ⟨_, cnt3, nn + 1, HR7.out, HM7.out, by omega, HEL.out, HG7.out⟩
          case measure => rw [lr_left HR7.out, lr_left HL.out]; exact hlt
        · have HZ := hide h0
          have hz : (f - c == 0) = false := by simp [h0]
          clear h0
          go_wp2_with (first | (with_reducible refine wpList_loadKey HQ2.out rfl _ rfl rfl ?_) | ((with_reducible refine wpList_lookupLM w6 rfl _ _ rfl rfl rfl HQ1.out HKW.out ?_); rw [HFK.out]))
          have HM7 : Hid (LM w6 b1 (nn + 1) (thereK (lessK A2 F1 F2 (fun z => left z && !decide (z = k)))) (lessK A2 F1 F2 (fun z => left z && !decide (z = k)))) := hide (lm_congr HQ1.out (fun z _ => by
            unfold thereK
            rw [HLE.out z]
            unfold setK
            by_cases e : z = k
            · rw [if_pos e, if_pos e]; exact (decide_eq_true HZ.out).symm
            · rw [if_neg e, if_neg e]) (fun z _ => (HLE.out z).symm))
          go_roundw
          case rel => exact ⟨_, cnt3, nn + 1, HQ3.out, HM7.out, by omega, HEL.out, HQ4.out⟩
          case measure => rw [lr_left HQ3.out, lr_left HL.out]; exact hlt
end Go.Proofs.Ytcliiefedmiokaa
/-
  Switches, pure: the four cells, an image after a switch, lists of switches in order, paths.
-/
namespace Go.Proofs.Ytcliiefedmiokaa

/-- A switch: two rows and two columns. -/
structure Sw where
  y1 : Int
  y2 : Int
  x1 : Int
  x2 : Int
instance : DecidableEq Sw := fun a b =>
  if h : a.y1 = b.y1 ∧ a.y2 = b.y2 ∧ a.x1 = b.x1 ∧ a.x2 = b.x2 then isTrue (by obtain ⟨a1, a2, a3, a4⟩ := a; obtain ⟨b1, b2, b3, b4⟩ := b; simp only at h; obtain ⟨rfl, rfl, rfl, rfl⟩ := h; rfl)
  else isFalse fun e => h (by rw [e]; exact ⟨rfl, rfl, rfl, rfl⟩)
def zeroSw : Sw := ⟨0, 0, 0, 0⟩
/-- The cell of a list. -/
def cellM (m : List (List Int)) (y x : Nat) : Int := (m.getD y []).getD x 0
theorem cell_mk (R C : Nat) (f : Nat → Nat → Int) {y x : Nat} (hy : y < R) (hx : x < C) : cellM (mkM R C f) y x = f y x := by
  simp [cellM, mkM, rowF, hy, hx]
theorem mk_cell (R C : Nat) (f : Nat → Nat → Int) : mkM R C (cellM (mkM R C f)) = mkM R C f := mkM_congr fun _ _ hy hx => cell_mk R C f hy hx
/-- The four cells of a switch, by number. -/
def four (R C : Nat) (f : Nat → Nat → Int) (a b c d : Nat) : Bool :=
  decide (a < b) && decide (c < d) && decide (b < R) && decide (d < C) && decide (f b d = f a c) && decide (f a d = 1 - f a c) && decide (f b c = 1 - f a c)
theorem four_iff {R C : Nat} {f : Nat → Nat → Int} {a b c d : Nat} : four R C f a b c d = true ↔ a < b ∧ c < d ∧ b < R ∧ d < C ∧ f b d = f a c ∧ f a d = 1 - f a c ∧ f b c = 1 - f a c := by
  simp [four, Bool.and_eq_true, and_assoc]
/-- A switch of an image. -/
def swF (R C : Nat) (f : Nat → Nat → Int) (s : Sw) : Bool :=
  decide (0 ≤ s.y1) && decide (0 ≤ s.x1) && decide (s.y1 < s.y2) && decide (s.x1 < s.x2) && four R C f s.y1.toNat s.y2.toNat s.x1.toNat s.x2.toNat
theorem swF_iff {R C : Nat} {f : Nat → Nat → Int} {s : Sw} : swF R C f s = true ↔ ∃ a b c d : Nat, s = ⟨a, b, c, d⟩ ∧ four R C f a b c d = true := by
  constructor
  · intro h
    simp only [swF, Bool.and_eq_true, decide_eq_true_eq] at h
    obtain ⟨⟨⟨⟨h1, h2⟩, h3⟩, h4⟩, h5⟩ := h
    refine ⟨_, _, _, _, ?_, h5⟩
    obtain ⟨y1, y2, x1, x2⟩ := s
    simp only at h1 h2 h3 h4 ⊢
    rw [Int.toNat_of_nonneg h1, Int.toNat_of_nonneg (by omega), Int.toNat_of_nonneg h2, Int.toNat_of_nonneg (by omega)]
  · rintro ⟨a, b, c, d, rfl, h⟩
    have := four_iff.1 h
    simp only [swF, Bool.and_eq_true, decide_eq_true_eq]
    exact ⟨⟨⟨⟨by omega, by omega⟩, by omega⟩, by omega⟩, by simpa using h⟩
theorem four_congr {R C : Nat} {f g : Nat → Nat → Int} (h : ∀ y x, y < R → x < C → f y x = g y x) (a b c d : Nat) : four R C f a b c d = four R C g a b c d := by
  rw [Bool.eq_iff_iff, four_iff, four_iff]
  constructor
  · rintro ⟨h1, h2, h3, h4, h5⟩
    rw [h b d h3 h4, h a c (by omega) (by omega), h a d (by omega) h4, h b c h3 (by omega)] at h5
    exact ⟨h1, h2, h3, h4, h5⟩
  · rintro ⟨h1, h2, h3, h4, h5⟩
    rw [← h b d h3 h4, ← h a c (by omega) (by omega), ← h a d (by omega) h4, ← h b c h3 (by omega)] at h5
    exact ⟨h1, h2, h3, h4, h5⟩
theorem swF_congr {R C : Nat} {f g : Nat → Nat → Int} (h : ∀ y x, y < R → x < C → f y x = g y x) (s : Sw) : swF R C f s = swF R C g s := by
  unfold swF; rw [four_congr h]
/-- The cells after a switch. -/
def flipN (f : Nat → Nat → Int) (a b c d : Nat) (y x : Nat) : Int := if (y = a ∨ y = b) ∧ (x = c ∨ x = d) then 1 - f y x else f y x
def flipF (f : Nat → Nat → Int) (s : Sw) : Nat → Nat → Int := flipN f s.y1.toNat s.y2.toNat s.x1.toNat s.x2.toNat
theorem flipN_img {R C : Nat} {f : Nat → Nat → Int} (h : Img R C f) (a b c d : Nat) : Img R C (flipN f a b c d) :=
  ⟨h.r1, h.r2, h.c1, h.c2, fun y x hy hx => by unfold flipN; split <;> rcases h.cell y x hy hx with e | e <;> simp [e]⟩
theorem flipF_img {R C : Nat} {f : Nat → Nat → Int} (h : Img R C f) (s : Sw) : Img R C (flipF f s) := flipN_img h _ _ _ _
theorem flipN_flip (f : Nat → Nat → Int) (a b c d : Nat) : flipN (flipN f a b c d) a b c d = f := by
  funext y x
  unfold flipN
  by_cases h : (y = a ∨ y = b) ∧ (x = c ∨ x = d)
  · rw [if_pos h, if_pos h]; omega
  · rw [if_neg h, if_neg h]
theorem flipF_flip (f : Nat → Nat → Int) (s : Sw) : flipF (flipF f s) s = f := flipN_flip f _ _ _ _
theorem flipN_congr {R C : Nat} {f g : Nat → Nat → Int} (h : ∀ y x, y < R → x < C → f y x = g y x) (a b c d : Nat) : ∀ y x, y < R → x < C → flipN f a b c d y x = flipN g a b c d y x := by
  intro y x hy hx; unfold flipN; rw [h y x hy hx]
theorem four_flip {R C : Nat} {f : Nat → Nat → Int} {a b c d : Nat} (h : four R C f a b c d = true) : four R C (flipN f a b c d) a b c d = true := by
  have := four_iff.1 h
  refine four_iff.2 ⟨this.1, this.2.1, this.2.2.1, this.2.2.2.1, ?_⟩
  unfold flipN
  simp
  omega
theorem swF_flip {R C : Nat} {f : Nat → Nat → Int} {s : Sw} (h : swF R C f s = true) : swF R C (flipF f s) s = true := by
  obtain ⟨a, b, c, d, rfl, h'⟩ := swF_iff.1 h
  exact swF_iff.2 ⟨a, b, c, d, rfl, by simpa [flipF] using four_flip h'⟩

/-- The same of lists. -/
def swB (m : List (List Int)) (s : Sw) : Bool := swF m.length (widthM m) (cellM m) s
def flipM (m : List (List Int)) (s : Sw) : List (List Int) := mkM m.length (widthM m) (flipF (cellM m) s)
theorem swB_mk {R C : Nat} {f : Nat → Nat → Int} (h : Img R C f) (s : Sw) : swB (mkM R C f) s = swF R C f s := by
  have := h.r1
  unfold swB
  rw [mkM_len, width_mkM (by omega)]
  exact swF_congr (fun y x hy hx => cell_mk R C f hy hx) s
theorem flipM_mk {R C : Nat} {f : Nat → Nat → Int} (h : Img R C f) (s : Sw) : flipM (mkM R C f) s = mkM R C (flipF f s) := by
  have := h.r1
  unfold flipM
  rw [mkM_len, width_mkM (by omega)]
  exact mkM_congr (flipN_congr (fun y x hy hx => cell_mk R C f hy hx) _ _ _ _)

/-- A node: a list that is a valid image of this size. -/
def Node (R C : Nat) (m : List (List Int)) : Prop := ∃ f, m = mkM R C f ∧ Img R C f
theorem node_flip {R C : Nat} {m : List (List Int)} (h : Node R C m) (s : Sw) : Node R C (flipM m s) := by
  obtain ⟨f, rfl, h⟩ := h
  exact ⟨_, flipM_mk h s, flipF_img h s⟩
theorem flip_back {R C : Nat} {m : List (List Int)} (h : Node R C m) (s : Sw) : flipM (flipM m s) s = m := by
  obtain ⟨f, rfl, h⟩ := h
  rw [flipM_mk h, flipM_mk (flipF_img h s), flipF_flip]
theorem swB_back {R C : Nat} {m : List (List Int)} (h : Node R C m) {s : Sw} (hs : swB m s = true) : swB (flipM m s) s = true := by
  obtain ⟨f, rfl, h⟩ := h
  rw [swB_mk h] at hs
  rw [flipM_mk h, swB_mk (flipF_img h s)]
  exact swF_flip hs

/-- Switches one after the other. -/
def goM : List (List Int) → List Sw → Option (List (List Int))
  | m, [] => some m
  | m, s :: p => if swB m s then goM (flipM m s) p else none
theorem goM_append (m : List (List Int)) (p q : List Sw) : goM m (p ++ q) = (goM m p).bind fun t => goM t q := by
  induction p generalizing m with
  | nil => rfl
  | cons s p ih =>
    simp only [List.cons_append, goM]
    split
    · exact ih _
    · rfl
theorem goM_snoc {m t : List (List Int)} {p : List Sw} {s : Sw} (h : goM m p = some t) (hs : swB t s = true) : goM m (p ++ [s]) = some (flipM t s) := by
  rw [goM_append, h]
  simp [goM, hs]
theorem goM_unsnoc {m u : List (List Int)} {p : List Sw} {s : Sw} (h : goM m (p ++ [s]) = some u) : ∃ t, goM m p = some t ∧ swB t s = true ∧ u = flipM t s := by
  rw [goM_append] at h
  cases ht : goM m p with
  | none => rw [ht] at h; cases h
  | some t =>
    rw [ht] at h
    simp only [Option.bind_some, goM] at h
    split at h
    · rename_i hs; exact ⟨t, rfl, hs, (Option.some.inj h).symm⟩
    · cases h
theorem goM_node {R C : Nat} {m t : List (List Int)} {p : List Sw} (hm : Node R C m) (h : goM m p = some t) : Node R C t := by
  induction p generalizing m with
  | nil => cases h; exact hm
  | cons s p ih =>
    simp only [goM] at h
    split at h
    · exact ih (node_flip hm s) h
    · cases h
theorem goM_rev {R C : Nat} {m t : List (List Int)} {p : List Sw} (hm : Node R C m) (h : goM m p = some t) : goM t p.reverse = some m := by
  induction p generalizing m with
  | nil => cases h; rfl
  | cons s p ih =>
    simp only [goM] at h
    split at h
    · rename_i hs
      rw [List.reverse_cons]
      have := goM_snoc (ih (node_flip hm s) h) (swB_back hm hs)
      rw [flip_back hm s] at this
      exact this
    · cases h

/-- A switch by its number, and its number. -/
def decS (i : Nat) : Sw := ⟨((i / 125 : Nat) : Int), ((i / 25 % 5 : Nat) : Int), ((i / 5 % 5 : Nat) : Int), ((i % 5 : Nat) : Int)⟩
def codeS (s : Sw) : Int := ((s.y1 * 5 + s.y2) * 5 + s.x1) * 5 + s.x2
theorem code_dec (i : Nat) : codeS (decS i) = i := by unfold codeS decS; simp only; omega
/-- The switches up to a number, in order. -/
def upS (m : List (List Int)) (k : Nat) : List Sw := ((List.range k).filter fun i => swB m (decS i)).map decS
theorem upS_zero (m : List (List Int)) : upS m 0 = [] := rfl
theorem upS_yes {m : List (List Int)} {k : Nat} (h : swB m (decS k) = true) : upS m (k + 1) = upS m k ++ [decS k] := by
  unfold upS; rw [List.range_succ, List.filter_append, List.map_append]; simp [h]
theorem upS_no {m : List (List Int)} {k : Nat} (h : swB m (decS k) = false) : upS m (k + 1) = upS m k := by
  unfold upS; rw [List.range_succ, List.filter_append, List.map_append]; simp [h]
theorem upS_skip {m : List (List Int)} {k l : Nat} (hkl : k ≤ l) (h : ∀ i, k ≤ i → i < l → swB m (decS i) = false) : upS m l = upS m k := by
  induction l with
  | zero => obtain rfl : k = 0 := by omega
            rfl
  | succ l ih =>
    by_cases e : k = l + 1
    · rw [e]
    · rw [upS_no (h l (by omega) (by omega)), ih (by omega) fun i h1 h2 => h i h1 (by omega)]
def swsM (m : List (List Int)) : List Sw := upS m 625
theorem upS_len (m : List (List Int)) (k : Nat) : (upS m k).length ≤ k := by
  unfold upS; rw [List.length_map]
  exact Nat.le_trans (List.length_filter_le _ _) (by rw [List.length_range]; exact Nat.le_refl _)
theorem upS_mem {m : List (List Int)} {k : Nat} {s : Sw} (h : s ∈ upS m k) : swB m s = true ∧ ∃ i, i < k ∧ s = decS i := by
  unfold upS at h
  simp only [List.mem_map, List.mem_filter, List.mem_range] at h
  obtain ⟨i, ⟨h1, h2⟩, rfl⟩ := h
  exact ⟨h2, i, h1, rfl⟩
theorem sws_mem {R C : Nat} {m : List (List Int)} (hm : Node R C m) {s : Sw} : s ∈ swsM m ↔ swB m s = true := by
  refine ⟨fun h => (upS_mem h).1, fun h => ?_⟩
  obtain ⟨f, rfl, hI⟩ := hm
  have h0 := h
  rw [swB_mk hI] at h
  obtain ⟨a, b, c, d, rfl, hf⟩ := swF_iff.1 h
  have hf := four_iff.1 hf
  have := hI.r2; have := hI.c2
  unfold swsM upS
  simp only [List.mem_map, List.mem_filter, List.mem_range]
  have e : decS (((a * 5 + b) * 5 + c) * 5 + d) = ⟨a, b, c, d⟩ := by
    unfold decS
    rw [show (((a * 5 + b) * 5 + c) * 5 + d) / 125 = a by omega, show (((a * 5 + b) * 5 + c) * 5 + d) / 25 % 5 = b by omega, show (((a * 5 + b) * 5 + c) * 5 + d) / 5 % 5 = c by omega, show (((a * 5 + b) * 5 + c) * 5 + d) % 5 = d by omega]
  exact ⟨((a * 5 + b) * 5 + c) * 5 + d, ⟨by omega, by rw [e]; exact h0⟩, e⟩
/-- One switch comes before another. -/
def swlt (a b : Sw) : Prop := codeS a < codeS b
theorem upS_sorted (m : List (List Int)) (k : Nat) : (upS m k).Pairwise swlt := by
  unfold upS
  rw [List.pairwise_map]
  refine List.Pairwise.imp ?_ (List.Pairwise.filter _ (List.pairwise_lt_range (n := k)))
  intro a b h
  unfold swlt; rw [code_dec, code_dec]; omega
end Go.Proofs.Ytcliiefedmiokaa
/-
  Slices whose elements have several cells: what a call owns, a literal of one element, append.
-/
namespace Go.Proofs.Ytcliiefedmiokaa
open Go.RowKit

theorem ownA_below {w w' : World} {base e n z : Nat} {v : Value} {xs : List Value} (h : w.ownsRow base e z v n xs) (hb : Below w.heap.size w w') : w'.ownsRow base e z v n xs := by
  refine ⟨h.1, ?_⟩
  rcases h.2 with hn | ⟨g, cap, cur, hv, hbg, hg, r⟩
  · exact .inl hn
  · exact .inr ⟨g, cap, cur, hv, hbg, by rw [hb.block g (Array.getElem?_eq_some_iff.1 hg).1]; exact hg, r⟩
theorem ownA_base {w : World} {base base' e n z : Nat} {v : Value} {xs : List Value} (h : w.ownsRow base e z v n xs) (hb : base' ≤ base) : w.ownsRow base' e z v n xs := by
  refine ⟨h.1, ?_⟩
  rcases h.2 with hn | ⟨g, cap, cur, hv, hbg, hg, r⟩
  · exact .inl hn
  · exact .inr ⟨g, cap, cur, hv, by omega, hg, r⟩
theorem ownA_slice {w : World} {base e n z : Nat} {v : Value} {xs : List Value} (h : w.ownsRow base e z v n xs) : ∃ a cap, v = .slice a n cap := by
  rcases h.2 with ⟨rfl, rfl⟩ | ⟨g, cap, cur, rfl, _⟩
  · exact ⟨_, _, rfl⟩
  · exact ⟨_, _, rfl⟩
theorem ownA_some {w : World} {base e n z : Nat} {v : Value} {xs : List Value} (h : w.ownsRow base e z v n xs) (hn : 0 < n) :
    ∃ g cap, v = .slice (some ⟨g, 0, none⟩) n cap ∧ base ≤ g ∧ g < w.heap.size ∧ n ≤ cap ∧ cap ≤ maxLen ∧ (∀ j, j < n * z → w.cell? ⟨g, j, none⟩ = xs[j]?) ∧ (∀ j, w.frozen? ⟨g, j, none⟩ = false) := by
  rcases h.2 with ⟨_, h0⟩ | ⟨g, cap, cur, rfl, hbg, hg, hc, hm, _⟩
  · omega
  · exact ⟨g, cap, rfl, hbg, (Array.getElem?_eq_some_iff.1 hg).1, hc, hm, fun j hj => h.cellAt j hj, fun j => h.frozenAt j⟩
theorem ownA_types {w : World} {b1 b2 e1 e2 n1 n2 z1 z2 : Nat} {v1 v2 : Value} {xs ys : List Value} (h1 : w.ownsRow b1 e1 z1 v1 n1 xs) (h2 : w.ownsRow b2 e2 z2 v2 n2 ys) (hne : e1 ≠ e2) : v1.ownBlock = none ∨ v1.ownBlock ≠ v2.ownBlock := by
  rcases h1.2 with ⟨rfl, _⟩ | ⟨g1, c1, cur1, rfl, _, hg1, _⟩
  · exact .inl rfl
  · rcases h2.2 with ⟨rfl, _⟩ | ⟨g2, c2, cur2, rfl, _, hg2, _⟩
    · exact .inr (by simp [Value.ownBlock])
    · refine .inr fun e => ?_
      simp only [Value.ownBlock, Option.some.injEq] at e
      subst e
      rw [hg1] at hg2
      simp only [Option.some.injEq, Obj.cells.injEq] at hg2
      exact hne hg2.2.1
theorem ownA_grown {w w' : World} {base e n z : Nat} {v : Value} {xs : List Value} {row : Option Nat} (h : w.ownsRow base e z v n xs) (hg : w.grownBy w' row) (hr : ∀ k, row = some k → v.ownBlock ≠ some k) : w'.ownsRow base e z v n xs := by
  refine h.kept hg ?_
  cases hv : v.ownBlock with
  | none => exact .inl rfl
  | some k =>
    right
    cases row with
    | none => simp
    | some q => intro e; cases e; exact hr _ rfl hv

/-- '[]T{x}', x of some cells. -/
theorem wpList_buildOneA {P : Program} {ops : Array Oper} {rest : List Oper} {o : Oper} {a : Act} {Q : Exit → Act → World → Prop} {W : World} {T E : TypeId} {z bytes : Nat} (cs : Array Value) (zv : Value) (d : Tmp) (_hd : o.dst = some d) (hgd : o.guard = none) (x : Operand) (ho : o.op = .buildSlice T 1 #[(0, x)])
    (hx : a.eval x = .agg cs) (ht : P.underlying T = some (.slice E)) (hinfo : (P.info? E).map (fun i => (i.zero, i.size, i.bytes)) = some (some zv, z, bytes)) (hz : 0 < z) (hz2 : z ≤ 1000) (hcs : cs.size = z)
    (h : wpList P ops Q rest (a.put o.dst (.slice (some ⟨W.heap.size, 0, none⟩) 1 1)) (W.alloc (.cells cs E))) : wpList P ops Q (o :: rest) a W := by
  obtain ⟨i0, hi, hz0, hz1, -⟩ := info_parts hinfo
  refine wpList_buildSlice hgd T E 1 _ ho cs i0 zv ht hi hz0 (by rw [hz1]; omega) (by rw [hz1]; omega) ?_ h
  rw [hz1]
  have := Go.Great.fill_whole (s := z) hz [.agg cs] ((Array.range (1 * z)).map (zv.cells[· % zv.cells.size]!)) (by simpa [Value.cells] using hcs) (by simp)
  simpa [hx, Value.cells] using this

/-- 'append(v, x)', x of some cells, laid just before. -/
theorem wpList_pushA {P : Program} {ops : Array Oper} {rest : List Oper} {o : Oper} {a : Act} {Q : Exit → Act → World → Prop} {W : World} {base n bytes z : Nat} {E T : TypeId} {v : Value} {xs : List Value}
    (hown : W.ownsRow base E z v n xs) (cs : Array Value) (zv : Value) (hgd : o.guard = none) (s x : Operand)
    (ho : o.op = .call { callee := .builtin .append, args := #[s, x], argTypes := #[T, T] })
    (ht : P.underlying T = some (.slice E)) (hinfo : (P.info? E).map (fun i => (i.zero, i.size, i.bytes)) = some (some zv, z, bytes)) (hzc : zv.cells.size = z) (hz : 0 < z) (hby : bytes ≤ 1000)
    (hs : a.eval s = v) (hx : a.eval x = .slice (some ⟨W.heap.size, 0, none⟩) 1 1) (hcs : cs.size = z) (hone : cs.all (·.oneCell') = true) (hn : n < 4000000) (hbase : base ≤ W.heap.size)
    (h : ∀ g cap w', w'.ownsRow base E z (.slice (some ⟨g, 0, none⟩) (n + 1) cap) (n + 1) (xs ++ cs.toList) → Below base W w' → W.grownBy w' v.ownBlock → (v.ownBlock = some g ∨ W.heap.size ≤ g) → g < w'.heap.size → wpList P ops Q rest (a.put o.dst (.slice (some ⟨g, 0, none⟩) (n + 1) cap)) w') :
    wpList P ops Q (o :: rest) a (W.alloc (.cells cs E)) := by
  obtain ⟨i0, hi, hz0, hz1, hz2⟩ := info_parts hinfo
  refine wpList_append_lies _ hgd s x T ho base E i0 zv z bytes ht hi hz0 hz1 hz2 hzc hz v n xs hs (hown.alloc _) ⟨W.heap.size, 0, none⟩ 1 1 cs.toList hx (by simp [hcs]) ?_ ?_
    (by decide) (by unfold maxLen; omega) (by have : (n + 1) * bytes ≤ 4000000 * 1000 := Nat.mul_le_mul (by omega) hby; omega) (by simp; omega) _ rfl ?_
  · intro j u hj
    rw [addr_add, Nat.zero_add, cell_of_row _ W.heap.size j cs E (0, 0) (heap_alloc_new W _)]
    simpa using hj
  · intro u hu
    exact (Array.all_eq_true_iff_forall_mem.1 hone) u (by simpa using hu)
  intro g cap w' hown' hg hat hlt'
  have hlt := hown.lt
  have hal : Below base W (W.alloc (.cells cs E)) := (Below.refl _ _).alloc hbase _
  refine h g cap w' hown' (hal.grown hg (by simp; omega) (fun k hk => (hlt k hk).1)) ?_ ?_ hlt'
  · exact grown_trans (World.grownBy_alloc W _ _) hg
  · rcases hat with h1 | h1
    · exact .inl h1
    · right; rw [h1, World.size_alloc]; omega
end Go.Proofs.Ytcliiefedmiokaa
/-
  A queue of the call's own: a slice whose first elements have been cut off, and to which others are appended.
-/
namespace Go.Proofs.Ytcliiefedmiokaa
open Go.RowKit

/-- n elements of z cells, from some place on in a row that the call has made. -/
def OwnQ (w : World) (base e z : Nat) (v : Value) (n : Nat) (xs : List Value) : Prop :=
  xs.length = n * z ∧ ∃ g o cap cur, v = .slice (some ⟨g, o, none⟩) n cap ∧ base ≤ g ∧ w.heap[g]? = some (.cells cur e (0, 0)) ∧ n ≤ cap ∧ cap ≤ maxLen ∧ o + cap * z ≤ cur.size ∧ ∀ j, j < n * z → cur[o + j]? = xs[j]?
theorem ownQ_slice {w : World} {base e z n : Nat} {v : Value} {xs : List Value} (h : OwnQ w base e z v n xs) : ∃ g o cap, v = .slice (some ⟨g, o, none⟩) n cap ∧ n ≤ cap ∧ cap ≤ maxLen ∧ base ≤ g ∧ g < w.heap.size ∧ ∀ j, j < n * z → w.cell? ⟨g, o + j, none⟩ = xs[j]? := by
  obtain ⟨-, g, o, cap, cur, rfl, hb, hg, h1, h2, h3, h4⟩ := h
  refine ⟨g, o, cap, rfl, h1, h2, hb, (Array.getElem?_eq_some_iff.1 hg).1, fun j hj => ?_⟩
  rw [cell_of_row w g (o + j) _ _ _ hg]
  exact h4 j hj
theorem ownQ_lt {w : World} {base e z n : Nat} {v : Value} {xs : List Value} (h : OwnQ w base e z v n xs) : ∀ k, v.ownBlock = some k → base ≤ k ∧ k < w.heap.size := by
  obtain ⟨g, o, cap, rfl, -, -, h1, h2, -⟩ := ownQ_slice h
  intro k hk
  simp [Value.ownBlock] at hk
  subst hk
  exact ⟨h1, h2⟩
theorem ownQ_heap {w w' : World} {base e z n : Nat} {v : Value} {xs : List Value} (h : OwnQ w base e z v n xs) (hk : ∀ k, v.ownBlock = some k → w'.heap[k]? = w.heap[k]?) : OwnQ w' base e z v n xs := by
  obtain ⟨h0, g, o, cap, cur, rfl, hb, hg, r⟩ := h
  exact ⟨h0, g, o, cap, cur, rfl, hb, (hk g rfl).trans hg, r⟩
theorem ownQ_below {w w' : World} {base e z n : Nat} {v : Value} {xs : List Value} (h : OwnQ w base e z v n xs) (hb : Below w.heap.size w w') : OwnQ w' base e z v n xs := ownQ_heap h fun k hk => hb.block k (ownQ_lt h k hk).2
theorem ownQ_grown {w w' : World} {base e z n : Nat} {v : Value} {xs : List Value} {row : Option Nat} (h : OwnQ w base e z v n xs) (hg : w.grownBy w' row) (hr : ∀ k, v.ownBlock = some k → row ≠ some k) : OwnQ w' base e z v n xs := ownQ_heap h fun k hk => hg.block k (ownQ_lt h k hk).2 (Ne.symm (hr k hk))
theorem ownQ_of {w : World} {base e z n : Nat} {v : Value} {xs : List Value} (h : w.ownsRow base e z v n xs) (hn : 0 < n) : OwnQ w base e z v n xs := by
  refine ⟨h.1, ?_⟩
  rcases h.2 with ⟨_, h0⟩ | ⟨g, cap, cur, rfl, hb, hg, h1, h2, h3, h4⟩
  · omega
  · refine ⟨g, 0, cap, cur, rfl, hb, hg, h1, h2, by omega, fun j hj => ?_⟩
    rw [Nat.zero_add, ← h4, List.getElem?_take, if_pos hj]; simp
theorem ownQ_not_row {w : World} {b1 e1 z1 n1 b2 e2 z2 n2 : Nat} {v1 v2 : Value} {xs ys : List Value} (h1 : OwnQ w b1 e1 z1 v1 n1 xs) (h2 : w.ownsRow b2 e2 z2 v2 n2 ys) (hne : e1 ≠ e2) : ∀ k, v1.ownBlock = some k → v2.ownBlock ≠ some k := by
  obtain ⟨-, g, o, cap, cur, rfl, -, hg, -⟩ := h1
  intro k hk
  simp [Value.ownBlock] at hk
  subst hk
  rcases h2.2 with ⟨rfl, _⟩ | ⟨g2, c2, cur2, rfl, _, hg2, _⟩
  · simp [Value.ownBlock]
  · intro e
    simp only [Value.ownBlock, Option.some.injEq] at e
    subst e
    rw [hg] at hg2
    simp only [Option.some.injEq, Obj.cells.injEq] at hg2
    exact hne hg2.2.1
/-- 'x[1:]'. -/
def tailV (g o z n cap : Nat) : Value := .slice (some (if cap = 1 then ⟨g, o, none⟩ else ⟨g, o + z, none⟩)) n (cap - 1)
theorem ownQ_tail {w : World} {base e z n g o cap : Nat} {xs : List Value} (h : OwnQ w base e z (.slice (some ⟨g, o, none⟩) (n + 1) cap) (n + 1) xs) : OwnQ w base e z (tailV g o z n cap) n (xs.drop z) := by
  obtain ⟨h0, g', o', cap', cur, he, hb, hg, h1, h2, h3, h4⟩ := h
  cases he
  have hz : (n + 1) * z = n * z + z := by rw [Nat.add_mul, Nat.one_mul]
  refine ⟨by rw [List.length_drop]; omega, ?_⟩
  unfold tailV
  by_cases hc : cap = 1
  · subst hc
    obtain rfl : n = 0 := by omega
    exact ⟨g, o, 0, cur, by rw [if_pos rfl], hb, hg, Nat.zero_le _, Nat.zero_le _, by omega, fun j hj => by omega⟩
  · have e1 : cap * z = (cap - 1) * z + z := by
      obtain ⟨c, rfl⟩ : ∃ c, cap = c + 1 := ⟨cap - 1, by omega⟩
      rw [Nat.add_sub_cancel, Nat.add_mul, Nat.one_mul]
    refine ⟨g, o + z, cap - 1, cur, by rw [if_neg hc], hb, hg, by omega, by omega, by omega, fun j hj => ?_⟩
    rw [List.getElem?_drop, ← h4 (z + j) (by omega), Nat.add_assoc]
theorem exec_tail {P : Program} {ρ : Operand → Value} {o : Oper} {w : World} {x : Operand} {T E : TypeId} {g b z n c : Nat} (ho : o.op = .slice T x (some (.const (.int .i64 1))) none none) (hl : ρ (.const (.int .i64 1)) = .int .i64 1) (hx : ρ x = .slice (some ⟨g, b, none⟩) (n + 1) c) (hc : n + 1 ≤ c) (hu : P.underlying T = some (.slice E)) (hs : ∀ w, (sizeOf E).run P w = .ok z w) :
    (execOp ρ o).run P w = .ok (.value (tailV g b z n c)) w := by
  unfold execOp tailV
  simp only [ho, Option.map_some, Option.map_none, hx, hl]
  by_cases e : c = 1
  · subst e
    have : n = 0 := by omega
    subst this
    simp [Instr.sliceAt, Instr.slice, run_underlying hu, Instr.sliceBounds, Instr.sliceBound, asIntOf, hs, Result.andThen]
  · have h3 : (1 : Int) ≤ (n : Int) + 1 := by omega
    simp [Instr.sliceAt, Instr.slice, run_underlying hu, Instr.sliceBounds, Instr.sliceBound, asIntOf, hs, Result.andThen, e, h3, addr_add]
theorem setCells_row {g : Nat} {e : TypeId} : ∀ (vs : List Value) (o : Nat) (w : World) (cur : Array Value), w.heap[g]? = some (.cells cur e (0, 0)) → o + vs.length ≤ cur.size →
    ∃ cur', (w.setCells g o vs).heap[g]? = some (.cells cur' e (0, 0)) ∧ cur'.size = cur.size ∧ (∀ i, i < o ∨ o + vs.length ≤ i → cur'[i]? = cur[i]?) ∧ (∀ j, j < vs.length → cur'[o + j]? = vs[j]?) ∧ w.grownBy (w.setCells g o vs) (some g) ∧ (w.setCells g o vs).heap.size = w.heap.size
  | [], o, w, cur, h, _ => ⟨cur, h, rfl, fun _ _ => rfl, fun j hj => by simp at hj, ⟨rfl, rfl, rfl, Nat.le_refl _, fun _ _ _ => rfl⟩, rfl⟩
  | x :: r, o, w, cur, h, hle => by
    simp only [List.length_cons] at hle
    have h1 := heap_setCell_same w g o cur e x h
    obtain ⟨cur', g1, g2, g3, g4, g5, g6⟩ := setCells_row r (o + 1) (w.setCell ⟨g, o, none⟩ x) (cur.setIfInBounds o x) h1 (by simp; omega)
    refine ⟨cur', g1, by rw [g2]; simp, fun i hi => ?_, fun j hj => ?_, ?_, ?_⟩
    · simp only [List.length_cons] at hi
      rw [g3 i (by omega), Array.getElem?_setIfInBounds_ne (by omega)]
    · simp only [List.length_cons] at hj
      cases j with
      | zero =>
        rw [g3 (o + 0) (by omega)]
        simp [show o < cur.size by omega]
      | succ j =>
        rw [show o + (j + 1) = o + 1 + j by omega, g4 j (by omega)]; simp
    · exact grown_trans (b := w.setCell ⟨g, o, none⟩ x) ⟨rfl, rfl, rfl, by simp [World.setCell], fun k _ hr => heap_setCell_other w _ k _ fun e => hr (by rw [e])⟩ g5
    · show ((w.setCell ⟨g, o, none⟩ x).setCells g (o + 1) r).heap.size = w.heap.size
      rw [g6]; simp [World.setCell]
/-- 'append(v, x)' at a queue, x laid just before. -/
theorem wpList_pushQ {P : Program} {ops : Array Oper} {rest : List Oper} {o : Oper} {a : Act} {Q : Exit → Act → World → Prop} {W : World} {base n bytes z : Nat} {E T : TypeId} {v : Value} {xs : List Value}
    (hown : OwnQ W base E z v n xs) (cs : Array Value) (zv : Value) (hgd : o.guard = none) (s x : Operand)
    (ho : o.op = .call { callee := .builtin .append, args := #[s, x], argTypes := #[T, T] })
    (ht : P.underlying T = some (.slice E)) (hinfo : (P.info? E).map (fun i => (i.zero, i.size, i.bytes)) = some (some zv, z, bytes)) (hzc : zv.cells.size = z) (hz : 0 < z) (hby : bytes ≤ 1000)
    (hs : a.eval s = v) (hx : a.eval x = .slice (some ⟨W.heap.size, 0, none⟩) 1 1) (hcs : cs.size = z) (hone : cs.all (·.oneCell') = true) (hn : n < 4000000) (hbase : base ≤ W.heap.size)
    (h : ∀ v' w', OwnQ w' base E z v' (n + 1) (xs ++ cs.toList) → Below base W w' → W.grownBy w' v.ownBlock → wpList P ops Q rest (a.put o.dst v') w') :
    wpList P ops Q (o :: rest) a (W.alloc (.cells cs E)) := by
  obtain ⟨i0, hi, hz0, hz1, hz2⟩ := info_parts hinfo
  subst hz1
  have hq := ownQ_below hown ((Below.refl W.heap.size W).alloc (Nat.le_refl _) (.cells cs E))
  have hal : Below base W (W.alloc (.cells cs E)) := (Below.refl _ _).alloc hbase _
  have hlt := ownQ_lt hown
  obtain ⟨h0, g, q, cap, cur, rfl, hb, hg, h1, h2, h3, h4⟩ := hq
  have hnews : ∀ j u, cs.toList[j]? = some u → (W.alloc (.cells cs E)).cell? ((⟨W.heap.size, 0, none⟩ : Addr).add j) = some u := fun j u hj => by
    rw [addr_add, Nat.zero_add, cell_of_row _ W.heap.size j cs E (0, 0) (heap_alloc_new W _)]
    simpa using hj
  have hone' : ∀ u ∈ cs.toList, u.oneCell' = true := fun u hu => (Array.all_eq_true_iff_forall_mem.1 hone) u (by simpa using hu)
  have hlen : cs.toList.length = 1 * i0.size := by simpa using hcs
  have hn1 : (n + 1) * i0.size = n * i0.size + i0.size := by rw [Nat.add_mul, Nat.one_mul]
  refine wpList_plain hgd fun K hK => ?_
  unfold Oper.wp execOp
  simp only [ho, resolve, invoke, builtin, Sem.run_bind, Sem.run_pure, Result.andThen_ok, List.map_toArray, List.map_cons, List.map_nil, hs, hx]
  by_cases hroom : n + 1 ≤ cap
  · have hcz : (n + 1) * i0.size ≤ cap * i0.size := Nat.mul_le_mul_right _ hroom
    have hsz : ∀ j, j < cs.toList.length → q + n * i0.size + j < cur.size := fun j hj => by rw [hlen] at hj; omega
    have hr := run_append_room_cells (P := P) (w := W.alloc (.cells cs E)) T o.type E i0 ht hi g q n cap ⟨W.heap.size, 0, none⟩ 1 1 cs.toList hlen hnews hone' hroom
      (fun j hj => by rw [cell_of_row _ g _ _ _ _ hg, Array.getElem?_eq_getElem (hsz j hj)]; rfl) (fun j hj => frozen_of_row _ g _ _ _ hg)
    rw [hr]
    obtain ⟨cur', g1, g2, g3, g4, g5, g6⟩ := setCells_row cs.toList (q + n * i0.size) (W.alloc (.cells cs E)) cur hg (by rw [hlen]; omega)
    refine hK _ _ (h _ _ ⟨by rw [List.length_append, h0, hlen]; omega, g, q, cap, cur', rfl, hb, g1, hroom, h2, by omega, fun j hj => ?_⟩ (hal.grown g5 (by simp; omega) (fun k hk => by cases hk; exact (hlt g rfl).1)) (grown_trans (World.grownBy_alloc W _ _) g5))
    by_cases e : j < n * i0.size
    · rw [g3 (q + j) (by omega), h4 j e, List.getElem?_append_left (by omega)]
    · rw [List.getElem?_append_right (by omega), h0, show q + j = q + n * i0.size + (j - n * i0.size) by omega]
      exact g4 _ (by rw [hlen]; omega)
  · obtain ⟨v', w', hr, g1, g2⟩ := run_append_arg_grows (P := P) (w := W.alloc (.cells cs E)) T o.type E i0 zv i0.size bytes ht hi hz0 rfl hz2 hzc hz ⟨g, q, none⟩ n cap xs h0 (fun j u hj => by
      have hj' := (List.getElem?_eq_some_iff.1 hj).1
      rw [addr_add, cell_of_row _ g _ _ _ _ hg, h4 j (by omega)]; exact hj) ⟨W.heap.size, 0, none⟩ 1 1 cs.toList hlen hnews (by omega) (by unfold maxLen; omega) (by have : (n + 1) * bytes ≤ 4000000 * 1000 := Nat.mul_le_mul (by omega) hby; omega)
    rw [hr]
    have gg : W.grownBy w' none := grown_trans (World.grownBy_alloc W _ _) g2
    refine hK _ _ (h _ _ (ownQ_of (ownA_base g1 (by simp; omega)) (by omega)) (hal.grown g2 (by simp; omega) (fun k hk => by cases hk)) ⟨gg.os, gg.tape, gg.output, gg.size, fun k hk _ => gg.block k hk (by simp)⟩)
end Go.Proofs.Ytcliiefedmiokaa
