/-
  Texts of this claim, one behind the other: Grid, Sums, LawsQ, Key, Entry, LMap.
-/
import Derived.Test.YtiajdmoppgpgnaaPackF
import Derived.Test.YtiajdmoppgpgnaaPackD
import Derived.Deep.CutRange
import Derived.Test.YtiajdmoppgpgnaaPackC
import Derived.DeepKeys5
import Derived.Maps.OwnSet
import Derived.Maps.RangeWalk
import Derived.WideKeyEntry
import Derived.Test.YtiajdmoppgpgnaaPackA
/-
  Grids in variables; collect over rows of zeros; zeroGrid.
-/
namespace Go.Proofs.Ytiajdmoppgpgnaa
open Go.RowKit
set_option maxRecDepth 100000

abbrev gridV (R C : Int) (v : Value) : Value := .agg #[.int .i64 R, .int .i64 C, v]
/-- A grid in a variable. -/
def GridAt (w : World) (g : Nat) (R C : Int) (v : Value) : Prop := w.heap[g]? = some (.cells #[.int .i64 R, .int .i64 C, v] 75 (0, 0))
theorem gridAt_lt {w : World} {g : Nat} {r c : Int} {v : Value} (h : GridAt w g r c v) : g < w.heap.size := (Array.getElem?_eq_some_iff.1 h).1
theorem gridAt_below {w w' : World} {g : Nat} {r c : Int} {v : Value} (h : GridAt w g r c v) (hb : Below w.heap.size w w') : GridAt w' g r c v := by
  unfold GridAt; rw [hb.block g (gridAt_lt h)]; exact h
theorem gridAt_grown {w w' : World} {g : Nat} {r c : Int} {v : Value} {row : Option Nat} (h : GridAt w g r c v) (hg : w.grownBy w' row) (hr : row ≠ some g) : GridAt w' g r c v := by
  unfold GridAt; rw [hg.block g (gridAt_lt h) (Ne.symm hr)]; exact h
theorem gridAt_within {w w' : World} {g lo hi : Nat} {r c : Int} {v : Value} (h : GridAt w g r c v) (hw : Within lo hi w w') (ha : g < lo ∨ hi ≤ g) : GridAt w' g r c v := by
  unfold GridAt; rw [hw.block g (gridAt_lt h) ha]; exact h
theorem gridAt_cells {w : World} {g : Nat} {r c : Int} {v : Value} (h : GridAt w g r c v) : w.cell? ⟨g, 0, none⟩ = some (.int .i64 r) ∧ w.cell? ⟨g, 1, none⟩ = some (.int .i64 c) ∧ w.cell? ⟨g, 2, none⟩ = some v :=
  ⟨by rw [cell_of_row w g 0 _ _ _ h]; rfl, by rw [cell_of_row w g 1 _ _ _ h]; rfl, by rw [cell_of_row w g 2 _ _ _ h]; rfl⟩
theorem Try.sizeGr : (Try.prog.info? 75).map (·.size) = some 3 := by kernel_rfl
theorem wpList_loadGr {ops : Array Oper} {rest : List Oper} {o : Oper} {a : Act} {Q : Exit → Act → World → Prop} {W : World} {g : Nat} {r c : Int} {v : Value} (hb : GridAt W g r c v)
    (hgd : o.guard = none) (x : Operand) (ho : o.op = .load 75 x) (hx : a.eval x = .pointer (some ⟨g, 0, none⟩))
    (h : wpList Try.prog ops Q rest (a.put o.dst (gridV r c v)) W) : wpList Try.prog ops Q (o :: rest) a W :=
  wpList_load_row hgd _ x ho g hx _ _ (0, 0) _ hb Try.underlying75 rfl Try.sizeGr h
theorem exec_loadGr {ρ : Operand → Value} {o : Oper} {w : World} {x : Operand} {g : Nat} {r c : Int} {v : Value} (ho : o.op = .load 75 x) (hx : ρ x = .pointer (some ⟨g, 0, none⟩)) (hb : GridAt w g r c v) : (execOp ρ o).run Try.prog w = .ok (.value (gridV r c v)) w := by
  unfold execOp
  simp only [ho, hx, Instr.loadAt, Instr.sureAddr, Sem.run_bind, Sem.run_pure, Result.andThen_ok, run_loadVar_row w g _ _ _ _ _ hb Try.underlying75 rfl Try.sizeGr]
theorem exec_storeGr {ρ : Operand → Value} {o : Oper} {w : World} {x y : Operand} {g : Nat} {r0 c0 : Int} {v0 : Value} (r c : Int) (v : Value) (ho : o.op = .store 75 x y) (hx : ρ x = .pointer (some ⟨g, 0, none⟩)) (hy : ρ y = gridV r c v) (hb : GridAt w g r0 c0 v0) (hv : v.oneCell' = true) :
    ∃ w', (execOp ρ o).run Try.prog w = .ok .skip w' ∧ GridAt w' g r c v ∧ w.grownBy w' (some g) ∧ w'.heap.size = w.heap.size := by
  unfold execOp
  simp only [ho, hx, hy, gridV, Instr.storeAt, Instr.sureAddr, Sem.run_bind, Sem.run_pure, Result.andThen_ok, run_storeVar_row w g 75 75 #[.int .i64 r0, .int .i64 c0, v0] #[.int .i64 r, .int .i64 c, v] hb (by rw [Try.sizeGr]; rfl) rfl (by simp [Value.oneCell'] <;> simpa [Value.oneCell'] using hv)]
  exact ⟨_, rfl, setRow_heap w g _ _ _ (0, 0) hb, ⟨rfl, rfl, rfl, by simp, fun k hk hr => setRow_other w g k _ (fun e => hr (by rw [e]))⟩, by simp⟩
theorem wpList_storeGr {ops : Array Oper} {rest : List Oper} {o : Oper} {a : Act} {Q : Exit → Act → World → Prop} {W : World} {g : Nat} {r0 c0 : Int} {v0 : Value} (hb : GridAt W g r0 c0 v0) (r c : Int) (v : Value) (hv : v.oneCell' = true)
    (hgd : o.guard = none) (x y : Operand) (ho : o.op = .store 75 x y) (hx : a.eval x = .pointer (some ⟨g, 0, none⟩)) (hy : a.eval y = gridV r c v)
    (h : ∀ w', GridAt w' g r c v → W.grownBy w' (some g) → w'.heap.size = W.heap.size → wpList Try.prog ops Q rest (a.put o.dst undef) w') : wpList Try.prog ops Q (o :: rest) a W := by
  refine wpList_plain hgd fun K hK => ?_
  obtain ⟨w', h1, h2, h3, h4⟩ := exec_storeGr (ρ := a.eval) r c v ho hx hy hb hv
  unfold Oper.wp
  rw [h1]
  exact hK _ _ (h w' h2 h3 h4)
theorem ownMat_slice {w : World} {lo hi : Nat} {v : Value} {m : List (List Int)} (h : OwnMat w lo hi v m) : ∃ a n c, v = .slice a n c := by
  obtain ⟨vs, ho, -⟩ := h
  obtain ⟨a, c, rfl⟩ := own_slice ho
  exact ⟨a, _, c, rfl⟩
theorem exec_field0S {ρ : Operand → Value} {o : Oper} {w : World} {x : Operand} {g : Nat} (ho : o.op = .fieldAddr 73 x 0) (hx : ρ x = .pointer (some ⟨g, 0, none⟩)) : (execOp ρ o).run Try.prog w = .ok (.value (.pointer (some ⟨g, 0, none⟩))) w := by
  unfold execOp
  simp only [ho, hx]
  go_simp
theorem exec_loadS0 {ρ : Operand → Value} {o : Oper} {w : World} {x : Operand} {g : Nat} {r c : Int} (ho : o.op = .load 3 x) (hx : ρ x = .pointer (some ⟨g, 0, none⟩)) (hb : SizeAt w g r c) : (execOp ρ o).run Try.prog w = .ok (.value (.int .i64 r)) w := by
  obtain ⟨h0, -⟩ := sizeAt_cells hb
  unfold execOp
  simp only [ho, hx]
  go_simp
theorem exec_fun1 {ρ : Operand → Value} {o : Oper} {w : World} {x : Operand} {f : FuncId} {v : Value} (ho : o.op = .makeFunc (.func f) #[] #[x]) (hx : ρ x = v) : (execOp ρ o).run Try.prog w = .ok (.value (.func (.func f) #[] #[v])) w := by
  unfold execOp
  simp only [ho]
  go_simp
theorem exec_buildGrid {ρ : Operand → Value} {o : Oper} {w : World} {x y : Operand} {r c : Int} {v : Value} (ho : o.op = .build 75 #[(0, x), (1, y)]) (hx : ρ x = .agg #[.int .i64 r, .int .i64 c]) (hy : ρ y = v) (hv : ∃ a n c, v = .slice a n c) : (execOp ρ o).run Try.prog w = .ok (.value (gridV r c v)) w := by
  obtain ⟨a, n, c', rfl⟩ := hv
  unfold execOp gridV
  simp only [ho]
  go_simp

set_option maxHeartbeats 400000 in
theorem zeroRow_any (k C g R : Nat) (w : World) (hs : SizeAt w g R C) (hC : C ≤ 40) :
    Calls Try.prog 125 #[.int .i64 ((k : Int) + 1), .pointer (some ⟨g, 0, none⟩)] w fun e w' => ∃ v, e = .returned v ∧ w'.ownsRow w.heap.size 3 1 v C (ints (rowF C fun _ => 0)) ∧ Below w.heap.size w w' := by
  obtain ⟨h0, h1⟩ := sizeAt_cells hs
  clear hs
  go_enter Try.func125, Try.ntmps125
  go_wp2_with (at_make; refine wpList_new w.heap.size C (.int .i64 0) rfl _ _ rfl Try.underlying33 Try.infoInt rfl (by decide) rfl rfl (by omega) (Nat.le_refl _) ?_; intro w1 hown1 hb1 hg1; have HO := hide hown1; have HB := hide hb1; clear hown1 hb1 hg1)
  go_ret
  have e : List.replicate C (Value.int .i64 0) = ints (rowF C fun _ => 0) := by
    apply List.ext_getElem
    · simp [ints, rowF]
    · intro i h1 h2; simp [ints, rowF]
  exact ⟨_, rfl, by rw [← e]; exact HO.out, HB.out⟩
set_option maxHeartbeats 1000000 in
theorem collectZ_any (gf : Nat) (C : Nat) (cb : Array Value) (n : Nat) (w : World) (eg : ∀ args w, (callFunc gf args).run Try.prog w = .ok (.enter gf args) w) (hn : n ≤ 40)
    (hF : ∀ (k : Nat) (W : World), k < n → Below w.heap.size w W → Calls Try.prog gf (#[.int .i64 ((k : Int) + 1)] ++ cb) W fun e W' => ∃ v, e = .returned v ∧ W'.ownsRow W.heap.size 3 1 v C (ints (rowF C fun _ => 0)) ∧ Below W.heap.size W W') :
    Calls Try.prog 124 #[.int .i64 n, .func (.func gf) #[] cb] w fun e w' => ∃ v, e = .returned v ∧ OwnMat w' w.heap.size w'.heap.size v (mkM n C fun _ _ => 0) ∧ Below w.heap.size w w' := by
  have HF := hide hF
  obtain ⟨m, hm⟩ : ∃ m, m = mkM n C fun _ _ => (0 : Int) := ⟨_, rfl⟩
  have HM0 := hide hm
  have hml : m.length = n := by rw [hm, mkM_len]
  have HML := hide hml
  rw [← hm]
  clear hF hm hml
  go_enter Try.func124, Try.ntmps124
  go_wp2_with (at_make; refine wpList_new w.heap.size n (.slice none 0 0) rfl _ _ rfl Try.underlying29 Try.infoInts rfl (by decide) rfl rfl (by omega) (Nat.le_refl _) ?_; intro w1 hown1 hb1 hg1)
  have HO := hide hown1; have HB := hide hb1
  clear hown1 hb1 hg1
  go_wp2
  go_loopw [10] (fun i w' => ∃ k : Nat, k ≤ n ∧ i = .int .i64 k ∧ OwnMat w' w.heap.size w'.heap.size (.slice (some ⟨w.heap.size, 0, none⟩) n n) (fillM m k) ∧ Below w.heap.size w w') (fun i _ => n - (intOf i).toNat)
  case atStart => exact ⟨0, Nat.zero_le _, rfl, by rw [fillM_zero, HML.out]; exact ownMat_fresh _ HO.out (HO.out.lt _ rfl).2, HB.out⟩
  case round =>
    clear HO HB
    obtain ⟨k, hk, rfl, hown, hb⟩ := hrel
    have HO := hide hown; have HB := hide hb
    clear hown hb
    by_cases hlt : k < n
    · have hkm : k < m.length := by rw [HML.out]; exact hlt
      have HCA := hide (HF.out k wr hlt HB.out)
      have HL := hide (fillM_len m k (by omega))
      have HFS := hide (fillM_set m k hkm)
      have HRW : Hid (m[k] = rowF C fun _ => 0) := hide (by
        have h := HM0.out
        subst h
        rw [mkM_at])
      go_wp2_with fail
      refine HCA.out.mono ?_
      rintro e w2 ⟨v2, rfl, ho2, hb2⟩
      obtain ⟨a2, c2, rfl⟩ := own_slice ho2
      have HO2 := hide ho2; have HB2 := hide hb2
      clear ho2 hb2
      have HM := hide (ownMat_below HO.out HB2.out)
      obtain ⟨u0, hx2, hf2, -, -, -⟩ := ownMat_row HM.out k (by rw [HL.out]; exact hkm)
      go_wp2
      go_roundw
      case rel =>
        have hp := ownMat_put (r := rowF C fun _ => 0) (hi' := w2.heap.size) HM.out k (by rw [HL.out]; exact hkm) (by rw [rowF_len]; exact HO2.out) HB.out.size (Nat.le_refl _) HB2.out.size
        rw [← HRW.out, HFS.out] at hp
        exact ⟨k + 1, by omega, by go_num, ownMat_mono hp (Nat.le_refl _) (by simp), (HB.out.trans (HB2.out.mono HB.out.size)).setCell (Nat.le_refl _) _⟩
      case measure => simp [intOf]; omega
    · have HE : Hid (fillM m k = m) := hide (fillM_all _ _ (by rw [HML.out]; omega))
      go_wp2
      go_ret
      exact ⟨_, rfl, by have := HO.out; rw [HE.out] at this; exact this, HB.out⟩

/-- What answers a grid of the call's own. -/
def GridRes (R C : Nat) (f : Nat → Nat → Int) (w : World) (e : Ending) (w' : World) : Prop := ∃ v, e = .returned (gridV R C v) ∧ OwnMat w' w.heap.size w'.heap.size v (mkM R C f) ∧ Below w.heap.size w w'
set_option maxHeartbeats 2000000 in
theorem zeroGrid_any (R C : Nat) (w : World) (hR : R ≤ 40) (hC : C ≤ 40) :
    Calls Try.prog 108 #[.agg #[.int .i64 R, .int .i64 C]] w (GridRes R C (fun _ _ => 0) w) := by
  have HB0 := hide (((Below.refl w.heap.size w).alloc (Nat.le_refl _) (.cells #[.int .i64 R, .int .i64 C] 73)).alloc (by simp) (.cells #[.int .i64 0, .int .i64 0, .slice none 0 0] 75))
  have HZ : Hid (SizeAt ((w.alloc (.cells #[.int .i64 R, .int .i64 C] 73)).alloc (.cells #[.int .i64 0, .int .i64 0, .slice none 0 0] 75)) w.heap.size R C) := hide (sizeAt_below (heap_alloc_new w _) ((Below.refl _ _).alloc (Nat.le_refl _) _))
  have HG : Hid (GridAt ((w.alloc (.cells #[.int .i64 R, .int .i64 C] 73)).alloc (.cells #[.int .i64 0, .int .i64 0, .slice none 0 0] 75)) (w.heap.size + 1) 0 0 (.slice none 0 0)) := hide (by
    have := heap_alloc_new (w.alloc (.cells #[.int .i64 R, .int .i64 C] 73)) (.cells #[.int .i64 0, .int .i64 0, .slice none 0 0] 75)
    simpa [GridAt] using this)
  go_enter Try.func108, Try.ntmps108
  go_upto_region 1 with fail
  obtain ⟨fs, hfs⟩ : ∃ fs : List FactP, fs = [(isV (.agg #[.int .i64 R, .int .i64 C])), (isV (.pointer (some ⟨w.heap.size, 0, none⟩))), (isV (.int .i64 R)), (isV (.func (.func 125) #[] #[.pointer (some ⟨w.heap.size, 0, none⟩)])), (fun u w2 => OwnMat w2 (w.heap.size + 2) w2.heap.size u (mkM R C fun _ _ => 0)), (fun u w2 => ∃ x, u = gridV R C x ∧ OwnMat w2 (w.heap.size + 2) w2.heap.size x (mkM R C fun _ _ => 0))] := ⟨_, rfl⟩
  have hst : ∀ f ∈ fs, StableP f := by
    rw [hfs]; intro f hf
    simp only [List.mem_cons, List.not_mem_nil, or_false] at hf
    rcases hf with rfl | rfl | rfl | rfl | rfl | rfl <;> first | exact stable_v _ | exact fun u w2 w3 hb h => ownMat_mono (ownMat_below h hb) (Nat.le_refl _) hb.size | exact fun u w2 w3 hb ⟨x, h1, h2⟩ => ⟨x, h1, ownMat_mono (ownMat_below h2 hb) (Nat.le_refl _) hb.size⟩
  subst hfs
  refine wp_region_g (S := fun w2 => (SizeAt w2 w.heap.size R C ∧ GridAt w2 (w.heap.size + 1) 0 0 (.slice none 0 0) ∧ w.heap.size + 2 ≤ w2.heap.size) ∧ Below w.heap.size w w2) [(isV (.agg #[.int .i64 R, .int .i64 C])), (isV (.pointer (some ⟨w.heap.size, 0, none⟩))), (isV (.int .i64 R)), (isV (.func (.func 125) #[] #[.pointer (some ⟨w.heap.size, 0, none⟩)])), (fun u w2 => OwnMat w2 (w.heap.size + 2) w2.heap.size u (mkM R C fun _ _ => 0)), (fun u w2 => ∃ x, u = gridV R C x ∧ OwnMat w2 (w.heap.size + 2) w2.heap.size x (mkM R C fun _ _ => 0))] [(1, .pointer (some ⟨w.heap.size, 0, none⟩))] _ _ 6 (by kernel_rfl) rfl rfl (by kernel_rfl) (by kernel_rfl) rfl (by kernel_rfl) ?base ⟨⟨HZ.out, HG.out, by simp⟩, below_drew HB0.out⟩ ?ob rfl ?fin
  case base =>
    intro t v ht
    simp only [List.lookup_cons, List.lookup_nil] at ht
    repeat' split at ht
    all_goals first | (cases ht; done) | (obtain rfl := Option.some.inj ht; rename_i hh; obtain rfl := eq_of_beq hh; rfl)
  case ob =>
    exact ⟨obg_of rfl (obt_one (.agg #[.int .i64 R, .int .i64 C]) rfl rfl (srt_b 1 rfl) (fun ρ w2 hS hx => exec_loadSz rfl hx hS.1.1)),
      obg_of rfl (obt_one (.pointer (some ⟨w.heap.size, 0, none⟩)) rfl rfl (srt_b 1 rfl) (fun ρ w2 hS hx => exec_field0S rfl hx)),
      obg_of rfl (obt_one (.int .i64 R) rfl rfl (srt_j 1 rfl (by kernel_rfl) rfl) (fun ρ w2 hS hx => exec_loadS0 rfl hx hS.1.1)),
      obg_of rfl (obt_any rfl (fun a w2 hS hs hd => ⟨.func (.func 125) #[] #[.pointer (some ⟨w.heap.size, 0, none⟩)], exec_fun1 rfl (hs _ _ (srt_b 1 rfl)), rfl⟩)),
      obg_of rfl (obt_call hst [.int .i64 R, .func (.func 125) #[] #[.pointer (some ⟨w.heap.size, 0, none⟩)]] rfl Try.func124 (by kernel_rfl) (by kernel_rfl) rfl ⟨(srt_j 2 rfl (by kernel_rfl) rfl), (srt_j 3 rfl (by kernel_rfl) rfl), trivial⟩ (fun w2 hS => (collectZ_any 125 C #[.pointer (some ⟨w.heap.size, 0, none⟩)] R w2 (fun _ _ => rfl) (by omega) (fun k W hk hb => zeroRow_any k C w.heap.size R W (sizeAt_below hS.1.1 hb) (by omega))).mono fun e w3 ⟨u, he, ho, hh⟩ => ⟨_, he, ⟨⟨sizeAt_below hS.1.1 hh, gridAt_below hS.1.2.1 hh, Nat.le_trans hS.1.2.2 hh.size⟩, hS.2.trans (hh.mono hS.2.size)⟩, hh, ownMat_mono ho hS.1.2.2 (Nat.le_refl _)⟩)),
      obg_of rfl (obt_any rfl (fun a w2 hS hs hd => by
      obtain ⟨x, hx⟩ : ∃ x, x = a.tmps.getD 7 undef := ⟨_, rfl⟩
      have h7 : OwnMat w2 (w.heap.size + 2) w2.heap.size x (mkM R C fun _ _ => 0) := by rw [hx]; exact hd 4 7 rfl (by kernel_rfl)
      exact ⟨gridV R C x, exec_buildGrid rfl (hs _ _ (srt_j 0 rfl (by kernel_rfl) rfl)) (show a.eval (.tmp 7) = x from hx.symm) (ownMat_slice h7), x, rfl, h7⟩)),
      trivial⟩
  case fin =>
    intro a' w' h1 h2 h3 hS h4 K hK
    have ha := frame_ov rfl h1 h2 h3 [(3, .agg #[.int .i64 R, .int .i64 C]), (4, .pointer (some ⟨w.heap.size, 0, none⟩)), (5, .int .i64 R), (6, .func (.func 125) #[] #[.pointer (some ⟨w.heap.size, 0, none⟩)]), (7, a'.tmps.getD 7 undef), (8, a'.tmps.getD 8 undef)] (by kernel_rfl) ⟨h4 0 3 rfl (by decide), h4 1 4 rfl (by decide), h4 2 5 rfl (by decide), h4 3 6 rfl (by decide), rfl, rfl, trivial⟩
    dsimp only [ov, List.lookup, Nat.reduceBEq, Nat.reduceAdd] at ha
    obtain ⟨x, hx8, ho⟩ := h4 5 8 rfl (by decide)
    obtain ⟨a9, n9, c9, hxs⟩ := ownMat_slice ho
    obtain ⟨w9, hrun, hg9, hgr, hsz⟩ := exec_storeGr (w := w') (ρ := a'.eval) (o := { dst := none, op := .store 75 (.tmp 2) (.tmp 8), type := 0, pos := "", after := #[], guard := none }) (R : Int) (C : Int) x rfl (h3 2 (by kernel_rfl)) hx8 hS.1.2.1 (by rw [hxs]; rfl)
    refine run_skip (w' := w9) hrun (hK undef _ ?_)
    show Exit.then _ _ Exit.normal a' _
    have HO := hide (ownMat_mono (lo' := w.heap.size) (hi' := w9.heap.size) (ownMat_within (lo' := w.heap.size + 1) (hi' := w.heap.size + 2) ho (within_grown hgr (fun k e => by cases e; omega)) (.inr (Nat.le_refl _))) (by omega) (by omega))
    have HG9 := hide hg9
    have HB9 := hide (hS.2.trans (grown_below hgr (fun k e => by cases e; omega) hS.2.size))
    clear hrun hg9 hgr hsz ho hS hxs a9 n9 c9
    rw [ha]
    generalize a'.tmps.getD 7 undef = u7
    generalize a'.tmps.getD 8 undef = u8
    clear ha h1 h2 h3 h4 hst hK
    clear hx8
    go_wp2
    obtain ⟨q0, q1, q2⟩ := gridAt_cells HG9.out
    refine bodyPost_ret (v := gridV R C x) ?_ rfl ⟨x, rfl, HO.out, HB9.out⟩
    simp [results, Try.results108, go_sem, q0, q1, q2, gridV]
end Go.Proofs.Ytiajdmoppgpgnaa
/-
  SumsOk, of the model and of the program.
-/
namespace Go.Proofs.Ytiajdmoppgpgnaa
open Go.RowKit

def badB (most x : Int) : Bool := decide (x < 0) || decide (most < x)
theorem any_no {p : Int → Bool} {r : List Int} (h : ∀ i, (hi : i < r.length) → p r[i] = false) : r.any p = false := by
  rw [Bool.eq_false_iff]; intro e
  rw [List.any_eq_true] at e
  obtain ⟨x, hx, hp⟩ := e
  obtain ⟨i, hi, rfl⟩ := List.getElem_of_mem hx
  rw [h i hi] at hp; cases hp
theorem any_yes {p : Int → Bool} {r : List Int} (i : Nat) (hi : i < r.length) (h : p r[i] = true) : r.any p = true := List.any_eq_true.2 ⟨_, List.getElem_mem hi, h⟩

set_option maxHeartbeats 400000 in
theorem bad_any (x most : Int) (g : Nat) (w : World) (hc : w.cell? ⟨g, 0, none⟩ = some (.int .i64 most)) :
    Calls Try.prog 120 #[.int .i64 x, .pointer (some ⟨g, 0, none⟩)] w fun e w' => e = .returned (.bool (badB most x)) ∧ w = w' := by
  have HB : Hid (badB most x = (decide (x < 0) || decide (most < x))) := hide rfl
  by_cases h1 : x < 0
  · go_enter Try.func120, Try.ntmps120
    go_wp2
    go_ret
    exact ⟨ret_bool (by rw [HB.out]; simp [h1]), rfl⟩
  · go_enter Try.func120, Try.ntmps120
    go_wp2
    go_ret
    exact ⟨ret_bool (by rw [HB.out]; simp; omega), rfl⟩

def IdxRes (b : Bool) (w : World) (e : Ending) (w' : World) : Prop := ∃ i : Int, e = .returned (.int .i64 i) ∧ -1 ≤ i ∧ b = decide (0 ≤ i) ∧ w = w'
set_option maxHeartbeats 1000000 in
theorem indexFunc_any (v : Value) (r : List Int) (most : Int) (q : Nat) (w : World) (hin : InRow w v r) (hq : w.cell? ⟨q, 0, none⟩ = some (.int .i64 most)) :
    Calls Try.prog 127 #[v, .func (.func 120) #[] #[.pointer (some ⟨q, 0, none⟩)]] w (IdxRes (r.any (badB most)) w) := by
  obtain ⟨a, c, rfl, hm, hp⟩ := hin
  unfold maxLen at hm
  by_cases h0 : r.length = 0
  · have hr : r = [] := List.eq_nil_of_length_eq_zero h0
    subst hr
    clear hp h0 hm
    go_enter Try.func127, Try.ntmps127
    go_wp2
    go_loop [8] (fun i => i = .int .i64 0) (fun _ => 0)
    case atStart => rfl
    case round =>
      obtain rfl := hrel
      go_wp2
      go_ret
      exact ⟨-1, rfl, by omega, rfl, rfl⟩
  · obtain ⟨g, o, rfl, hg, hc⟩ := hp.resolve_left h0
    have HC := hide hc
    obtain ⟨n, hn⟩ : ∃ n, n = r.length := ⟨_, rfl⟩
    have HN := hide hn
    rw [← hn] at hm ⊢
    clear hp hc h0 hn
    go_enter Try.func127, Try.ntmps127
    go_wp2
    go_loop [8] (fun i => ∃ k : Nat, k ≤ n ∧ i = .int .i64 k ∧ ∀ t, (h : t < r.length) → t < k → badB most r[t] = false) (fun i => n - (intOf i).toNat)
    case atStart => exact ⟨0, Nat.zero_le _, rfl, fun t _ h => absurd h (Nat.not_lt_zero _)⟩
    case round =>
      obtain ⟨k, hk, rfl, hall⟩ := hrel
      have HA := hide hall
      clear hall
      by_cases hlt : k < n
      · have hk' : k < r.length := by rw [← HN.out]; exact hlt
        have hx := HC.out k hk'
        have HNO := hide (fun h => any_yes (p := badB most) k hk' h)
        have HST : Hid (badB most r[k] = false → ∀ t, (h : t < r.length) → t < k + 1 → badB most r[t] = false) := hide fun h t h1 ht => by
          by_cases e : t = k
          · subst e; exact h
          · exact HA.out t h1 (by omega)
        obtain ⟨x, hxx⟩ : ∃ x, x = r[k] := ⟨_, rfl⟩
        rw [← hxx] at hx HNO HST
        clear hxx
        cases e : badB most x with
        | true =>
          have HE := hide e
          have HF := hide (HNO.out e)
          clear e
          go_wp2_with (go_at_call 120; refine (bad_any _ most q _ hq).mono ?_; rw [HE.out]; rintro e w9 ⟨rfl, rfl⟩)
          go_ret
          exact ⟨k, rfl, by omega, by rw [HF.out]; simp, rfl⟩
        | false =>
          have HE := hide e
          have HST := hide (HST.out e)
          clear e
          go_wp2_with (go_at_call 120; refine (bad_any _ most q _ hq).mono ?_; rw [HE.out]; rintro e w9 ⟨rfl, rfl⟩)
          go_round
          case rel => exact ⟨k + 1, by omega, by go_num, HST.out⟩
          case measure => simp [intOf]; omega
      · have HY := hide (any_no (p := badB most) fun t h => HA.out t h (by have := HN.out; omega))
        go_wp2
        go_ret
        exact ⟨-1, rfl, by omega, by rw [HY.out]; rfl, rfl⟩

set_option maxHeartbeats 400000 in
theorem containsFunc_any (v : Value) (r : List Int) (most : Int) (q : Nat) (w : World) (hin : InRow w v r) (hq : w.cell? ⟨q, 0, none⟩ = some (.int .i64 most)) :
    Calls Try.prog 119 #[v, .func (.func 120) #[] #[.pointer (some ⟨q, 0, none⟩)]] w fun e w' => e = .returned (.bool (r.any (badB most))) ∧ w = w' := by
  have HI := hide hin; have HQ := hide hq
  clear hin hq
  go_enter Try.func119, Try.ntmps119
  go_wp2_with fail
  refine (indexFunc_any v r most q _ HI.out HQ.out).mono ?_
  rintro e w1 ⟨i, rfl, hi, hb, rfl⟩
  have HB := hide hb
  clear hb
  by_cases h : 0 ≤ i
  · go_wp2
    go_ret
    exact ⟨ret_bool (by rw [HB.out]; simp [h]), rfl⟩
  · go_wp2
    go_ret
    exact ⟨ret_bool (by rw [HB.out]), rfl⟩

theorem sumsInRange_any (v : Value) (r : List Int) (most : Int) (w : World) (hin : InRow w v r) :
    Calls Try.prog 95 #[v, .int .i64 most] w fun e w' => e = .returned (.bool (!r.any (badB most))) ∧ Below w.heap.size w w' := by
  have HB := hide ((Below.refl w.heap.size w).alloc (Nat.le_refl _) (.cells #[.int .i64 most] 3))
  have HI := hide (inRow_below hin HB.out)
  have HQ := hide (show (w.alloc (.cells #[.int .i64 most] 3)).cell? ⟨w.heap.size, 0, none⟩ = some (.int .i64 most) by simp [World.cell?_alloc_new])
  clear hin
  go_enter Try.func95, Try.ntmps95
  go_wp2_with fail
  refine (containsFunc_any v r most w.heap.size _ HI.out HQ.out).mono ?_
  rintro e w1 ⟨rfl, rfl⟩
  go_wp2
  go_ret
  exact ⟨rfl, HB.out⟩

theorem sum_snoc (r : List Int) (k : Nat) (h : k < r.length) : (r.take (k + 1)).sum = (r.take k).sum + r[k] := by
  rw [List.take_succ_eq_append_getElem h, List.sum_append]; simp
def SmallL (r : List Int) : Prop := r.length ≤ 5 ∧ ∀ i, (h : i < r.length) → 0 ≤ r[i] ∧ r[i] ≤ 5
theorem sum_small {r : List Int} (h : SmallL r) : ∀ k, k ≤ r.length → 0 ≤ (r.take k).sum ∧ (r.take k).sum ≤ 5 * k := by
  intro k
  induction k with
  | zero => intro _; simp
  | succ k ih =>
    intro hk
    have := ih (by omega)
    have := h.2 k (by omega)
    rw [sum_snoc r k (by omega)]; omega
set_option maxHeartbeats 400000 in
theorem totalOf_any (v : Value) (r : List Int) (w : World) (hin : InRow w v r) (hs : SmallL r) :
    Calls Try.prog 96 #[v] w fun e w' => e = .returned (.int .i64 r.sum) ∧ w = w' := by
  obtain ⟨a, c, rfl, hm, hp⟩ := hin
  unfold maxLen at hm
  have HS := hide hs
  by_cases h0 : r.length = 0
  · have hr : r = [] := List.eq_nil_of_length_eq_zero h0
    subst hr
    clear hp h0 hm hs
    go_enter Try.func96, Try.ntmps96
    go_wp2
    go_loop [3, 8] (fun s i => s = .int .i64 0 ∧ i = .int .i64 0) (fun _ _ => 0)
    case atStart => exact ⟨rfl, rfl⟩
    case round =>
      obtain ⟨rfl, rfl⟩ := hrel
      go_wp2
      go_ret
      exact ⟨rfl, rfl⟩
  · obtain ⟨g, o, rfl, hg, hc⟩ := hp.resolve_left h0
    have HC := hide hc
    have h5 := hs.1
    obtain ⟨n, hn⟩ : ∃ n, n = r.length := ⟨_, rfl⟩
    have HN := hide hn
    rw [← hn] at hm h5 ⊢
    clear hp hc h0 hn hs
    go_enter Try.func96, Try.ntmps96
    go_wp2
    go_loop [3, 8] (fun s i => ∃ k : Nat, k ≤ n ∧ i = .int .i64 k ∧ s = .int .i64 (r.take k).sum) (fun _ i => n - (intOf i).toNat)
    case atStart => exact ⟨0, Nat.zero_le _, rfl, rfl⟩
    case round =>
      obtain ⟨k, hk, rfl, rfl⟩ := hrel
      obtain ⟨b1, b2⟩ := sum_small HS.out k (by rw [← HN.out]; exact hk)
      by_cases hlt : k < n
      · have hk' : k < r.length := by rw [← HN.out]; exact hlt
        have hx := HC.out k hk'
        have HST := hide (sum_snoc r k hk')
        obtain ⟨b3, b4⟩ := HS.out.2 k hk'
        obtain ⟨x, hxx⟩ : ∃ x, x = r[k] := ⟨_, rfl⟩
        obtain ⟨S, hSS⟩ : ∃ S, S = (r.take k).sum := ⟨_, rfl⟩
        rw [← hxx] at hx HST b3 b4
        rw [← hSS] at HST b1 b2 ⊢
        clear hxx hSS
        go_wp2
        go_round
        case rel => exact ⟨k + 1, by omega, by go_num, by rw [HST.out]⟩
        case measure => simp [intOf]; omega
      · have HE : Hid ((r.take k).sum = r.sum) := hide (by rw [List.take_of_length_le (by have := HN.out; omega)])
        rw [HE.out]
        clear b1 b2
        go_wp2
        go_ret
        exact ⟨rfl, rfl⟩

/-- What SumsOk returns. -/
def sumsOk (r c : List Int) : Bool := sizeOk r.length c.length && !r.any (badB c.length) && !c.any (badB r.length) && r.sum == c.sum
theorem small_of {r : List Int} {m : Int} (hl : r.length ≤ 5) (hm : m ≤ 5) (h : r.any (badB m) = false) : SmallL r := by
  refine ⟨hl, fun i hi => ?_⟩
  rw [List.any_eq_false] at h
  have := h _ (List.getElem_mem hi)
  simp only [badB, Bool.or_eq_true, decide_eq_true_eq, not_or] at this
  omega
set_option maxHeartbeats 1000000 in
theorem implSumsOk_any (va vb : Value) (r c : List Int) (w : World) (ha : InRow w va r) (hb : InRow w vb c) :
    Calls Try.prog 51 #[va, vb] w fun e w' => e = .returned (.bool (sumsOk r c)) ∧ Below w.heap.size w w' := by
  obtain ⟨a, ca, rfl, hma, hpa⟩ := ha
  obtain ⟨b, cb, rfl, hmb, hpb⟩ := hb
  have HA : Hid (InRow w (.slice a r.length ca) r) := hide ⟨a, ca, rfl, hma, hpa⟩
  have HB : Hid (InRow w (.slice b c.length cb) c) := hide ⟨b, cb, rfl, hmb, hpb⟩
  clear hpa hpb
  unfold maxLen at hma hmb
  obtain ⟨R, hR⟩ : ∃ R, R = r.length := ⟨_, rfl⟩
  obtain ⟨C, hC⟩ : ∃ C, C = c.length := ⟨_, rfl⟩
  have HRR := hide hR; have HCC := hide hC
  have HS : Hid (sumsOk r c = (decide ((1 : Int) ≤ R ∧ (R : Int) ≤ 5) && decide ((1 : Int) ≤ C ∧ (C : Int) ≤ 5) && !r.any (badB C) && !c.any (badB R) && r.sum == c.sum)) := hide (by rw [sumsOk, sizeOk, hR, hC])
  rw [← hR] at HA hma ⊢
  rw [← hC] at HB hmb ⊢
  rw [HS.out]
  by_cases h1 : 1 ≤ R ∧ R ≤ 5
  · have H1 : Hid (decide ((1 : Int) ≤ R ∧ (R : Int) ≤ 5) = true) := hide (decide_eq_true (by omega))
    rw [H1.out]
    by_cases h2 : 1 ≤ C ∧ C ≤ 5
    · have H2 : Hid (decide ((1 : Int) ≤ C ∧ (C : Int) ≤ 5) = true) := hide (decide_eq_true (by omega))
      rw [H2.out]
      cases h3 : r.any (badB C) with
      | true =>
        have H3 := hide h3
        clear hR hC h3
        go_enter Try.func51, Try.ntmps51
        go_wp2_with (first | (with_reducible refine (sideOk_any (R : Int) _).mono ?_; rw [H1.out]; rintro e w' ⟨rfl, rfl⟩) | (with_reducible refine (sideOk_any (C : Int) _).mono ?_; rw [H2.out]; rintro e w' ⟨rfl, rfl⟩) | ((with_reducible refine (sumsInRange_any _ r (C : Int) _ HA.out).mono ?_); rw [H3.out]; rintro e w1 ⟨rfl, b1⟩; have B1 := hide b1; clear b1))
        go_ret
        exact ⟨rfl, B1.out⟩
      | false =>
        have HSA := hide (small_of (m := C) (by rw [← hR]; exact h1.2) (by omega) h3)
        have H3 := hide h3
        cases h4 : c.any (badB R) with
        | true =>
          have H4 := hide h4
          clear hR hC h3 h4
          go_enter Try.func51, Try.ntmps51
          go_wp2_with (first | (with_reducible refine (sideOk_any (R : Int) _).mono ?_; rw [H1.out]; rintro e w' ⟨rfl, rfl⟩) | (with_reducible refine (sideOk_any (C : Int) _).mono ?_; rw [H2.out]; rintro e w' ⟨rfl, rfl⟩) | ((with_reducible refine (sumsInRange_any _ r (C : Int) _ HA.out).mono ?_); rw [H3.out]; rintro e w1 ⟨rfl, b1⟩; have B1 := hide b1; clear b1) | ((with_reducible refine (sumsInRange_any _ c (R : Int) _ (inRow_below HB.out B1.out)).mono ?_); rw [H4.out]; rintro e w2 ⟨rfl, b2⟩; have B2 := hide (B1.out.trans (b2.mono B1.out.size)); clear b2))
          go_ret
          exact ⟨rfl, B2.out⟩
        | false =>
          have HSB := hide (small_of (m := R) (by rw [← hC]; exact h2.2) (by omega) h4)
          have H4 := hide h4
          clear hR hC h3 h4
          obtain ⟨p1, p2⟩ := sum_small HSA.out r.length (Nat.le_refl _)
          obtain ⟨q1, q2⟩ := sum_small HSB.out c.length (Nat.le_refl _)
          rw [List.take_length] at p1 p2 q1 q2
          have TA := fun w hw => totalOf_any (.slice a R ca) r w hw HSA.out
          have TB := fun w hw => totalOf_any (.slice b C cb) c w hw HSB.out
          obtain ⟨X, hX⟩ : ∃ X, X = r.sum := ⟨_, rfl⟩
          obtain ⟨Y, hY⟩ : ∃ Y, Y = c.sum := ⟨_, rfl⟩
          rw [← hX] at TA p1 p2 ⊢
          rw [← hY] at TB q1 q2 ⊢
          have TA := hide TA; have TB := hide TB
          clear hX hY
          go_enter Try.func51, Try.ntmps51
          go_wp2_with (first | (with_reducible refine (sideOk_any (R : Int) _).mono ?_; rw [H1.out]; rintro e w' ⟨rfl, rfl⟩) | (with_reducible refine (sideOk_any (C : Int) _).mono ?_; rw [H2.out]; rintro e w' ⟨rfl, rfl⟩) | ((with_reducible refine (sumsInRange_any _ r (C : Int) _ HA.out).mono ?_); rw [H3.out]; rintro e w1 ⟨rfl, b1⟩; have B1 := hide b1; clear b1) | ((with_reducible refine (sumsInRange_any _ c (R : Int) _ (inRow_below HB.out B1.out)).mono ?_); rw [H4.out]; rintro e w2 ⟨rfl, b2⟩; have B2 := hide (B1.out.trans (b2.mono B1.out.size)); clear b2) | ((with_reducible refine (TA.out _ (inRow_below HA.out B2.out)).mono ?_); rintro e w' ⟨rfl, rfl⟩) | ((with_reducible refine (TB.out _ (inRow_below HB.out B2.out)).mono ?_); rintro e w' ⟨rfl, rfl⟩))
          go_ret
          exact ⟨ret_bool (by simp), B2.out⟩
    · have H2 : Hid (decide ((1 : Int) ≤ C ∧ (C : Int) ≤ 5) = false) := hide (decide_eq_false (by omega))
      rw [H2.out]
      clear hR hC h1 h2
      go_enter Try.func51, Try.ntmps51
      go_wp2_with (first | (with_reducible refine (sideOk_any (R : Int) _).mono ?_; rw [H1.out]; rintro e w' ⟨rfl, rfl⟩) | (with_reducible refine (sideOk_any (C : Int) _).mono ?_; rw [H2.out]; rintro e w' ⟨rfl, rfl⟩))
      go_ret
      exact ⟨rfl, Below.refl _ _⟩
  · have H1 : Hid (decide ((1 : Int) ≤ R ∧ (R : Int) ≤ 5) = false) := hide (decide_eq_false (by omega))
    rw [H1.out]
    clear hR hC h1
    go_enter Try.func51, Try.ntmps51
    go_wp2_with (first | (with_reducible refine (sideOk_any (R : Int) _).mono ?_; rw [H1.out]; rintro e w' ⟨rfl, rfl⟩))
    go_ret
    exact ⟨rfl, Below.refl _ _⟩

theorem bad_in (m x : Int) : decide (0 ≤ x ∧ x ≤ m) = !badB m x := by
  unfold badB
  by_cases h : 0 ≤ x ∧ x ≤ m
  · rw [decide_eq_true h, decide_eq_false (by omega), decide_eq_false (by omega)]; rfl
  · rw [decide_eq_false h]
    by_cases h1 : x < 0
    · rw [decide_eq_true h1]; rfl
    · rw [decide_eq_false h1, decide_eq_true (by omega : m < x)]; rfl
end Go.Proofs.Ytiajdmoppgpgnaa
/-
  The exact law on SumsOk, walked.
-/
namespace Go.Proofs.Ytiajdmoppgpgnaa
open Go.RowKit
set_option linter.unusedVariables false

/-- What 'open_ints' hands over. -/
theorem inRow_of {w : World} {x : Addr} {l c : Nat} {zs : List Int} (hl : l ≤ c) (hm : c ≤ maxLen) (hz : zs.length = c) (hcell : ∀ i, i < zs.length → w.cell? (x.add i) = some (.int .i64 (zs.getD i 0))) : InRow w (.slice (some x) l c) (zs.take l) := by
  have hlen : (zs.take l).length = l := by rw [List.length_take]; omega
  refine ⟨some x, c, by rw [hlen], by omega, ?_⟩
  by_cases h0 : l = 0
  · exact .inl (by omega)
  · refine .inr ?_
    obtain ⟨g, o, spot⟩ := x
    have hc := hcell 0 (by omega)
    have hspot : spot = none := by simpa [Addr.add] using World.cell?_spot hc
    subst hspot
    refine ⟨g, o, rfl, by have := World.block_lt_of_cell? w _ hc; simpa [Addr.add] using this, fun i hi => ?_⟩
    have := hcell i (by omega)
    rw [addr_add] at this
    rw [this, List.getElem_take, List.getD_eq_getElem?_getD, List.getElem?_eq_getElem (by omega)]; rfl

end Go.Proofs.Ytiajdmoppgpgnaa
/-
  The keys of the program's map of lines: a direction and a number.
-/
namespace Go.Proofs.Ytiajdmoppgpgnaa
open Go.RowKit
set_option maxRecDepth 100000

/-- A line: its direction and its number. -/
structure Key where
  x : Int
  y : Int
  n : Int
instance : DecidableEq Key := fun a b =>
  if h : a.x = b.x ∧ a.y = b.y ∧ a.n = b.n then isTrue (by obtain ⟨x, y, n⟩ := a; obtain ⟨x', y', n'⟩ := b; simp only at h; obtain ⟨rfl, rfl, rfl⟩ := h; rfl)
  else isFalse fun e => h (by rw [e]; exact ⟨rfl, rfl, rfl⟩)
def Key.wf (k : Key) : Prop := (Lit.int .i64 k.x).wf = true ∧ (Lit.int .i64 k.y).wf = true ∧ (Lit.int .i64 k.n).wf = true
def keyV (k : Key) : Value := .agg #[.int .i64 k.x, .int .i64 k.y, .int .i64 k.n]
theorem Try.laidOut : laidOutB Try.prog = true := by kernel_rfl
theorem Try.keyTy : Try.prog.keyType 139 = true := by kernel_rfl
theorem Try.cellsKey : Try.prog.cellsOf 139 = 3 := by kernel_rfl
theorem Try.cellsDir : Try.prog.cellsOf 36 = 2 := by kernel_rfl
theorem Try.cellsInt : Try.prog.cellsOf 3 = 1 := by kernel_rfl
theorem Try.keyLaw : Maps.Keyed Try.prog 139 := Maps.Keyed.of_law (deep_law_gate Try.laidOut (of_decide_eq_true (by kernel_rfl)) (of_decide_eq_true (by kernel_rfl)) Try.keyTy (by rw [Try.underlying139]))
theorem intLits (d : Nat) (v : Value) (L : List Lit) (h : Try.prog.keyLits (d + 1) 3 [v] = some L) : ∃ x, v = .int .i64 x ∧ (Lit.int .i64 x).wf = true := by
  unfold Program.keyLits at h
  rw [Try.underlying3] at h
  cases v <;> simp at h
  obtain ⟨⟨rfl, hw⟩, -⟩ := h
  exact ⟨_, rfl, hw⟩
theorem intLits_mk (d : Nat) (x : Int) (h : (Lit.int .i64 x).wf = true) : Try.prog.keyLits (d + 1) 3 [.int .i64 x] = some [.int .i64 x] := by
  unfold Program.keyLits
  rw [Try.underlying3]
  simp only
  rw [if_pos ⟨trivial, h⟩]
theorem dirLits_mk (d : Nat) (x y : Int) (h1 : (Lit.int .i64 x).wf = true) (h2 : (Lit.int .i64 y).wf = true) : Try.prog.keyLits (d + 2) 36 [.int .i64 x, .int .i64 y] = some [.int .i64 x, .int .i64 y] := by
  unfold Program.keyLits
  rw [Try.underlying36]
  simp only
  rw [if_pos ⟨by rw [Try.cellsDir]; rfl, by decide +kernel⟩]
  simp only [Try.cellsInt, List.mapM_cons, List.mapM_nil, List.drop_zero, List.take_succ_cons, List.take_zero, List.drop_succ_cons, bind, Option.bind, pure, Option.map, intLits_mk d x h1, intLits_mk d y h2]
  rfl
theorem list2 {l : List Value} (h : l.length = 2) : ∃ a b, l = [a, b] := by
  match l, h with
  | [a, b], _ => exact ⟨a, b, rfl⟩
theorem list3 {l : List Value} (h : l.length = 3) : ∃ a b c, l = [a, b, c] := by
  match l, h with
  | [a, b, c], _ => exact ⟨a, b, c, rfl⟩
theorem dirLits (d : Nat) (c : List Value) (L : List Lit) (h : Try.prog.keyLits (d + 2) 36 c = some L) : ∃ x y, c = [.int .i64 x, .int .i64 y] ∧ (Lit.int .i64 x).wf = true ∧ (Lit.int .i64 y).wf = true := by
  unfold Program.keyLits at h
  rw [Try.underlying36] at h
  simp only at h
  split at h
  · rename_i hc
    obtain ⟨a, b, rfl⟩ := list2 (hc.1.trans Try.cellsDir)
    simp only [Try.cellsInt, List.mapM_cons, List.mapM_nil, List.drop_zero, List.take_succ_cons, List.take_zero, List.drop_succ_cons, bind, Option.bind, pure, Option.map] at h
    cases ha : Try.prog.keyLits (d + 1) 3 [a] with
    | none => rw [ha] at h; simp at h
    | some la =>
      obtain ⟨x, rfl, hx⟩ := intLits d a la ha
      cases hb : Try.prog.keyLits (d + 1) 3 [b] with
      | none => rw [ha] at h; simp [hb] at h
      | some lb =>
        obtain ⟨y, rfl, hy⟩ := intLits d b lb hb
        exact ⟨x, y, rfl, hx, hy⟩
  · cases h
theorem key_inv {v : Value} {l : Lit} (h : keyOf Try.prog 139 v = some l) : ∃ k : Key, v = keyV k ∧ k.wf := by
  obtain ⟨xs, L, rfl, h1, -⟩ := keyOf_top (by rw [Try.underlying139]) h
  have hs : ∃ d, Try.prog.types.size + 1 = d + 3 := ⟨Try.prog.types.size - 2, by have : 3 ≤ Try.prog.types.size := of_decide_eq_true (by kernel_rfl); omega⟩
  obtain ⟨d, hd⟩ := hs
  rw [hd] at h1
  unfold Program.keyLits at h1
  rw [Try.underlying139] at h1
  simp only at h1
  split at h1
  · rename_i hc
    obtain ⟨a, b, c, e⟩ := list3 (hc.1.trans Try.cellsKey)
    rw [e] at h1
    simp only [Try.cellsInt, Try.cellsDir, List.mapM_cons, List.mapM_nil, List.drop_zero, List.take_succ_cons, List.take_zero, List.drop_succ_cons, bind, Option.bind, pure, Option.map] at h1
    cases ha : Try.prog.keyLits (d + 2) 36 [a, b] with
    | none => rw [ha] at h1; simp at h1
    | some la =>
      obtain ⟨x, y, hxy, hx, hy⟩ := dirLits d _ la ha
      simp only [List.cons.injEq, and_true] at hxy
      obtain ⟨rfl, rfl⟩ := hxy
      cases hb : Try.prog.keyLits (d + 2) 3 [c] with
      | none => rw [ha] at h1; simp [hb] at h1
      | some lb =>
        obtain ⟨n, rfl, hn⟩ := intLits (d + 1) c lb hb
        exact ⟨⟨x, y, n⟩, by unfold keyV; congr 1; exact Array.toList_inj.1 e, hx, hy, hn⟩
  · cases h1
theorem key_mk {k : Key} (h : k.wf) : ∃ l, keyOf Try.prog 139 (keyV k) = some l := by
  obtain ⟨x, y, n⟩ := k
  obtain ⟨h1, h2, h3⟩ := h
  have hs : ∃ d, Try.prog.types.size + 1 = d + 3 := ⟨Try.prog.types.size - 2, by have : 3 ≤ Try.prog.types.size := of_decide_eq_true (by kernel_rfl); omega⟩
  obtain ⟨d, hd⟩ := hs
  have hf : (keyV ⟨x, y, n⟩).formed Try.prog 139 = true := by
    simp [keyV, Value.formed, Try.underlying139, Try.cellsKey]
  have hL : Try.prog.keyLits (Try.prog.types.size + 1) 139 (keyV ⟨x, y, n⟩).cells.toList = some [.int .i64 x, .int .i64 y, .int .i64 n] := by
    rw [hd]
    show Try.prog.keyLits (d + 2 + 1) 139 [.int .i64 x, .int .i64 y, .int .i64 n] = _
    unfold Program.keyLits
    rw [Try.underlying139]
    simp only
    rw [if_pos ⟨by rw [Try.cellsKey]; rfl, by decide +kernel⟩]
    simp only [Try.cellsInt, Try.cellsDir, List.mapM_cons, List.mapM_nil, List.drop_zero, List.take_succ_cons, List.take_zero, List.drop_succ_cons, bind, Option.bind, pure, Option.map, dirLits_mk d x y h1 h2, intLits_mk (d + 1) n h3]
    rfl
  refine ⟨.string (keyBytes [.int .i64 x, .int .i64 y, .int .i64 n]), ?_⟩
  unfold keyOf
  rw [Try.underlying139]
  simp only [Try.keyTy, hf, Bool.and_self, if_true, hL, Option.map_some]
/-- What a key reads as. -/
noncomputable def kl (k : Key) : Lit := (keyOf Try.prog 139 (keyV k)).getD (.bool false)
theorem kl_of {k : Key} (h : k.wf) : keyOf Try.prog 139 (keyV k) = some (kl k) := by
  obtain ⟨l, hl⟩ := key_mk h
  unfold kl; rw [hl]; rfl
theorem keyV_inj {k l : Key} (h : keyV k = keyV l) : k = l := by
  obtain ⟨x, y, n⟩ := k
  obtain ⟨x', y', n'⟩ := l
  simp [keyV] at h
  obtain ⟨rfl, rfl, rfl⟩ := h; rfl
theorem kl_inj {k l : Key} (hk : k.wf) (hl : l.wf) (h : kl k = kl l) : k = l :=
  keyV_inj (Try.keyLaw.inj (kl_of hk) (h ▸ kl_of hl))
theorem kl_key {k : Key} (hk : k.wf) : WideAt.IsKeyLit (kl k) := Try.keyLaw.key (kl_of hk)
end Go.Proofs.Ytiajdmoppgpgnaa
/-
  'm[k] += v': the map's entry, met before or behind the look-up.
-/
namespace Go.Proofs.Ytiajdmoppgpgnaa
open Go.RowKit Go.Maps
open Go.ChangeMaps (setBlock)
open Go.WideElems (Fit)

theorem push_last (es : Array MapEntry) (e : MapEntry) (f : MapEntry → MapEntry) : (es.push e).modify es.size f = es.push (f e) := by
  apply Array.ext'
  rw [Array.toList_modify, Array.toList_push, Array.toList_push, ← Array.length_toList, WideElems.modify_last]
theorem modify_same (es : Array MapEntry) (j : Nat) (e0 : MapEntry) (f : MapEntry → MapEntry) (h : es[j]? = some e0) (hf : f e0 = e0) : es.modify j f = es := by
  apply Array.ext'
  rw [Array.toList_modify, ChangeMaps.modify_eq_set _ _ _ _ (by simpa using h), hf]
  exact WideElems.set_self _ _ _ (by simpa using h)

section
variable {P : Program} {t k e : TypeId} {b : Nat}
theorem find_no (K : Keyed P k) {x : Value} {lx : Lit} (hx : keyOf P k x = some lx) {es : List MapEntry} (hes : ∀ e ∈ es, ∃ l, keyOf P k e.key = some l) (h : ∀ e ∈ es, e.key ≠ x) (w : World) : (Instr.findKey k x es).run P w = .ok none w := by
  rcases K.find w hx es hes with ⟨h1, _⟩ | ⟨j, e, _, h2, h3⟩
  · exact h1
  · exact absurd h3 (h e (List.mem_of_getElem? h2))
theorem find_yes (K : Keyed P k) {x : Value} {lx : Lit} (hx : keyOf P k x = some lx) {es : List MapEntry} (hes : ∀ e ∈ es, ∃ l, keyOf P k e.key = some l) (hp : es.Pairwise fun x y => x.key ≠ y.key) {j : Nat} {e0 : MapEntry} (hj : es[j]? = some e0) (he : e0.key = x) (w : World) :
    (Instr.findKey k x es).run P w = .ok (some (j, e0.val)) w := by
  rcases K.find w hx es hes with ⟨_, h2⟩ | ⟨i, e, h1, h2, h3⟩
  · exact absurd he (h2 e0 (List.mem_of_getElem? hj))
  · have hij : i = j := by
      obtain ⟨hi, hie⟩ := List.getElem?_eq_some_iff.1 h2
      obtain ⟨hj', hje⟩ := List.getElem?_eq_some_iff.1 hj
      rcases Nat.lt_trichotomy i j with h | h | h
      · exact absurd (by rw [hie, hje, h3, he]) (List.pairwise_iff_getElem.1 hp i j hi hj' h)
      · exact h
      · exact absurd (by rw [hie, hje, h3, he]) (List.pairwise_iff_getElem.1 hp j i hj' hi h)
    subst hij
    rw [hj] at h2
    obtain rfl := Option.some.inj h2
    exact h1

/-- The entry at a key is made or found; the look-up yields the same before and behind it; the store behind it is a store at the key. -/
theorem entry_all {H : Type} {R : Value → Option (DataW H × List MemPlace)} {es : Array MapEntry} {clock : Nat} (K : Keyed P k) (ht : P.underlying t = some (.map k e)) {z : Value} (hz : ∀ u : World, (zeroValue e).run P u = .ok z u) (F : Fit P k R es clock)
    {key : Value} {lx : Lit} (hkey : keyOf P k key = some lx) :
    ∃ (v0 : Value) (st : Nat) (es1 : Array MapEntry) (clock1 : Nat),
      (∀ w : World, w.heap[b]? = some (.map es clock) → (Instr.mapEntry t (.map (some b)) key).run P w = .ok (.tuple #[v0, goInt st]) (setBlock w b (.map es1 clock1))) ∧
      (∀ w : World, w.heap[b]? = some (.map es1 clock1) → (Instr.mapEntry t (.map (some b)) key).run P w = .ok (.tuple #[v0, goInt st]) (setBlock w b (.map es1 clock1))) ∧
      (∀ w : World, w.heap[b]? = some (.map es clock) → (Instr.lookup t (.map (some b)) key false).run P w = .ok v0 w) ∧
      (∀ w : World, w.heap[b]? = some (.map es1 clock1) → (Instr.lookup t (.map (some b)) key false).run P w = .ok v0 w) ∧
      ∀ val : Value, ∃ es' clock', (∀ w : World, w.heap[b]? = some (.map es1 clock1) → (Instr.entryStore t (.map (some b)) (goInt st) val).run P w = .ok () (setBlock w b (.map es' clock'))) ∧
        ∀ w : World, w.heap[b]? = some (.map es clock) → (Instr.mapUpdate t (.map (some b)) key val).run P w = .ok () (setBlock w b (.map es' clock')) := by
  obtain ⟨s1, s2, s3⟩ := F.stamped
  have hpw : es.toList.Pairwise fun x y => x.key ≠ y.key := by have := s3; unfold List.Nodup at this; rw [List.pairwise_map] at this; exact this
  by_cases hin : ∃ (j : Nat) (e0 : MapEntry), es.toList[j]? = some e0 ∧ e0.key = key
  · obtain ⟨j, e0, h2, h3⟩ := hin
    have hf := fun w => find_yes K hkey F.keys hpw h2 h3 w
    have hj : es[j]? = some e0 := by simpa using h2
    have hsame : es.modify j (fun e => { e with key := key }) = es := modify_same es j e0 _ hj (by rw [← h3])
    have hr : ∀ w : World, w.heap[b]? = some (.map es clock) → (Instr.mapEntry t (.map (some b)) key).run P w = .ok (.tuple #[e0.val, goInt e0.born]) (setBlock w b (.map es clock)) := fun w hb => by
      simp [Instr.mapEntry, run_underlying ht, MapKept.run_getObj_map hb, K.check w false hkey, hf w, hj, h3, K.stays w hkey, hsame, MapKept.run_setObj_map _ hb, Result.andThen, setBlock]
    have hl : ∀ w : World, w.heap[b]? = some (.map es clock) → (Instr.lookup t (.map (some b)) key false).run P w = .ok e0.val w := fun w hb => by
      simp [Instr.lookup, run_underlying ht, MapKept.run_getObj_map hb, K.check w _ hkey, hf w, Result.andThen]
    refine ⟨e0.val, e0.born, es, clock, hr, hr, hl, hl, fun val => ⟨es.modify j (fun e' => { e' with key := key, val := val }), clock, fun w hb => ?_, fun w hb => ?_⟩⟩
    · have hidx : es.findIdx? (fun e => ((e.born : Nat) : Int) == ((e0.born : Nat) : Int)) = some j := by
        rw [WideElems.findIdx_arr]; exact WideElems.findIdx_born s2 h2
      have hmod : es.modify j (fun e => { e with val := val }) = es.modify j (fun e' => { e' with key := key, val := val }) := by
        apply Array.ext'
        rw [Array.toList_modify, Array.toList_modify, ChangeMaps.modify_eq_set _ _ _ _ h2, ChangeMaps.modify_eq_set _ _ _ _ h2, ← h3]
      simp [Instr.entryStore, MapKept.run_getObj_map hb, asInt, asIntOf, goInt, hidx, hmod, MapKept.run_setObj_map _ hb, Result.andThen, setBlock]
    · simp [Instr.mapUpdate, run_underlying ht, MapKept.run_getObj_map hb, K.check w false hkey, hf w, hj, h3, K.stays w hkey, MapKept.run_setObj_map _ hb, Result.andThen, setBlock]
  · have hno : ∀ x ∈ es.toList, x.key ≠ key := fun x hx e1 => by
      obtain ⟨j, hj⟩ := List.getElem?_of_mem hx
      exact hin ⟨j, x, hj, e1⟩
    have hf := fun w => find_no K hkey F.keys hno w
    have hk1 : ∀ x ∈ (es.push ⟨key, z, clock⟩).toList, ∃ l, keyOf P k x.key = some l := fun x hx => by
      rw [Array.toList_push, List.mem_append, List.mem_singleton] at hx
      rcases hx with hx | rfl
      · exact F.keys x hx
      · exact ⟨_, hkey⟩
    have hp1 : (es.push ⟨key, z, clock⟩).toList.Pairwise fun x y => x.key ≠ y.key := by
      rw [Array.toList_push]
      refine List.pairwise_append.2 ⟨hpw, List.pairwise_singleton _ _, fun x hx y hy => ?_⟩
      rw [List.mem_singleton] at hy
      subst hy
      exact hno x hx
    have hlast : (es.push ⟨key, z, clock⟩).toList[es.size]? = some ⟨key, z, clock⟩ := by simp
    have hf1 := fun w => find_yes K hkey hk1 hp1 hlast rfl w
    have hj1 : (es.push ⟨key, z, clock⟩)[es.size]? = some ⟨key, z, clock⟩ := by simp
    have hsame : (es.push ⟨key, z, clock⟩).modify es.size (fun e => { e with key := key }) = es.push ⟨key, z, clock⟩ := by rw [push_last]
    refine ⟨z, clock, es.push ⟨key, z, clock⟩, clock + 1, fun w hb => ?_, fun w hb => ?_, fun w hb => ?_, fun w hb => ?_, fun val => ⟨es.push ⟨key, val, clock⟩, clock + 1, fun w hb => ?_, fun w hb => ?_⟩⟩
    · simp [Instr.mapEntry, run_underlying ht, MapKept.run_getObj_map hb, K.check w false hkey, hf w, hz, MapKept.run_setObj_map _ hb, Result.andThen, setBlock]
    · have := hf1 w
      simp only [Array.toList_push] at this
      simp [Instr.mapEntry, run_underlying ht, MapKept.run_getObj_map hb, K.check w false hkey, this, K.stays w hkey, hsame, MapKept.run_setObj_map _ hb, Result.andThen, setBlock]
    · simp [Instr.lookup, run_underlying ht, MapKept.run_getObj_map hb, K.check w _ hkey, hf w, hz, Result.andThen]
    · have := hf1 w
      simp only [Array.toList_push] at this
      simp [Instr.lookup, run_underlying ht, MapKept.run_getObj_map hb, K.check w _ hkey, this, Result.andThen]
    · have hidx : (es.push ⟨key, z, clock⟩).findIdx? (fun e => ((e.born : Nat) : Int) == ((clock : Nat) : Int)) = some es.size := by
        rw [WideElems.findIdx_arr]
        exact WideElems.findIdx_born (l := (es.push ⟨key, z, clock⟩).toList) (j := es.size) (e0 := ⟨key, z, clock⟩) (by
          simp only [Array.toList_push, List.map_append, List.map_cons, List.map_nil]
          refine List.nodup_append.2 ⟨s2, by simp, fun a ha c hc e1 => ?_⟩
          simp only [List.mem_singleton] at hc
          obtain ⟨x, hx, rfl⟩ := List.mem_map.1 ha
          have := s1 x hx
          omega) (by simp)
      have hmod := push_last es ⟨key, z, clock⟩ (fun e => { e with val := val })
      simp [Instr.entryStore, MapKept.run_getObj_map hb, asInt, asIntOf, goInt, hidx, hmod, MapKept.run_setObj_map _ hb, Result.andThen, setBlock]
    · simp [Instr.mapUpdate, run_underlying ht, MapKept.run_getObj_map hb, K.check w false hkey, hf w, MapKept.run_setObj_map _ hb, Result.andThen, setBlock]
end
end Go.Proofs.Ytiajdmoppgpgnaa
/-
  A map of lines by its content: which keys are there, and what stands at each.
-/
namespace Go.Proofs.Ytiajdmoppgpgnaa
open Go.RowKit Go.Maps
open Go.ChangeMaps (setBlock)
open Go.WideElems (Fit rd rg pl rd_key)
set_option maxRecDepth 100000

theorem Try.zeroInt (w : World) : (zeroValue 3).run Try.prog w = .ok (.int .i64 0) w := by kernel_rfl
def ReadsAs (D : DataW Unit) (A : Key → Bool) (F : Key → Int) : Prop := ∀ k, k.wf → has D (kl k) = A k ∧ D.atKey (kl k) (.lit (.int .i64 0)) = .lit (.int .i64 (F k))
/-- Block b is a map of at most n lines: A says which are there, F what stands at each. -/
def LM (w : World) (b n : Nat) (A : Key → Bool) (F : Key → Int) : Prop := ∃ D : DataW Unit, w.ownsMap Try.prog 139 (plainElem (H := Unit) Try.prog 3) b n D ∧ ReadsAs D A F

theorem lm_heap {w w' : World} {b n : Nat} {A : Key → Bool} {F : Key → Int} (h : LM w b n A F) (e : w'.heap[b]? = w.heap[b]?) : LM w' b n A F := by
  obtain ⟨D, ⟨es, clock, hb, r⟩, hr⟩ := h
  exact ⟨D, ⟨es, clock, e.trans hb, r⟩, hr⟩
theorem lm_lt {w : World} {b n : Nat} {A : Key → Bool} {F : Key → Int} (h : LM w b n A F) : b < w.heap.size := by
  obtain ⟨D, hD, -⟩ := h
  exact hD.lt
theorem lm_below {w w' : World} {b n : Nat} {A : Key → Bool} {F : Key → Int} (h : LM w b n A F) (hb : Below w.heap.size w w') : LM w' b n A F := lm_heap h (hb.block b (lm_lt h))
theorem lm_grown {w w' : World} {b n : Nat} {A : Key → Bool} {F : Key → Int} {row : Option Nat} (h : LM w b n A F) (hg : w.grownBy w' row) (hr : row ≠ some b) : LM w' b n A F := lm_heap h (hg.block b (lm_lt h) (Ne.symm hr))
theorem lm_mono {w : World} {b n n' : Nat} {A : Key → Bool} {F : Key → Int} (h : LM w b n A F) (hn : n ≤ n') : LM w b n' A F := by
  obtain ⟨D, hD, hr⟩ := h
  exact ⟨D, hD.mono hn, hr⟩
theorem lm_congr {w : World} {b n : Nat} {A A' : Key → Bool} {F F' : Key → Int} (h : LM w b n A F) (hA : ∀ k, k.wf → A k = A' k) (hF : ∀ k, k.wf → F k = F' k) : LM w b n A' F' := by
  obtain ⟨D, hD, hr⟩ := h
  exact ⟨D, hD, fun k hk => by rw [← hA k hk, ← hF k hk]; exact hr k hk⟩
theorem lm_made (w : World) : LM (w.alloc (.map #[] 0)) w.heap.size 0 (fun _ => false) (fun _ => 0) :=
  ⟨.map [], World.ownsMap_made _ _ _ _, fun _ _ => ⟨rfl, rfl⟩⟩

def setK {α : Type} (f : Key → α) (k : Key) (v : α) : Key → α := fun z => if z = k then v else f z
theorem readsAs_put {D : DataW Unit} {A : Key → Bool} {F : Key → Int} (hD : IsMap D) (h : ReadsAs D A F) {k : Key} (hk : k.wf) (v : Int) : ReadsAs (D.put (kl k) (.lit (.int .i64 v))) (setK A k true) (setK F k v) := by
  intro z hz
  by_cases e : z = k
  · subst e
    simp only [setK, if_true]
    exact ⟨has_put_same hD (kl_key hz) _, atKey_put_same hD (kl_key hz) _ _⟩
  · have hne : kl z ≠ kl k := fun h => e (kl_inj hz hk h)
    simp only [setK, if_neg e]
    rw [has_put_other hne, atKey_put_other hne]
    exact h z hz
theorem readsAs_del {D : DataW Unit} {A : Key → Bool} {F : Key → Int} (h : ReadsAs D A F) {k : Key} (hk : k.wf) : ReadsAs (D.del (kl k)) (setK A k false) (setK F k 0) := by
  intro z hz
  by_cases e : z = k
  · subst e
    simp only [setK, if_true]
    exact ⟨has_del_same, atKey_del_same _⟩
  · have hne : kl z ≠ kl k := fun h => e (kl_inj hz hk h)
    simp only [setK, if_neg e]
    rw [has_del_other hne, atKey_del_other hne]
    exact h z hz
/-- Each key that is there is a line's. -/
theorem lm_key {w : World} {b n : Nat} {D : DataW Unit} (h : w.ownsMap Try.prog 139 (plainElem (H := Unit) Try.prog 3) b n D) {l : Lit} (hl : has D l = true) : ∃ k, k.wf ∧ l = kl k := by
  obtain ⟨es, clock, hb, F, hs, rfl⟩ := h
  obtain ⟨p, hp, hpk⟩ := List.any_eq_true.1 hl
  obtain ⟨x, hx, rfl⟩ := List.mem_map.1 (mem_sorted.1 hp)
  obtain ⟨y, hy⟩ := F.reads x hx
  have h1 := rd_key hy
  obtain ⟨k, hk, hw⟩ := key_inv h1
  refine ⟨k, hw, ?_⟩
  have h2 := WideAt.sameKey_eq hpk
  rw [WideElems.rg_of hy] at h2
  rw [← h2]
  rw [hk, kl_of hw] at h1
  exact (Option.some.inj h1).symm
theorem lm_size {w : World} {b n : Nat} {D : DataW Unit} {A : Key → Bool} {F : Key → Int} (h : w.ownsMap Try.prog 139 (plainElem (H := Unit) Try.prog 3) b n D) (hr : ReadsAs D A F) : (Maps.size D = 0 ↔ ∀ k, k.wf → A k = false) := by
  constructor
  · intro h0 k hk
    obtain ⟨es, rfl⟩ := h.isMap
    have : es = [] := List.eq_nil_of_length_eq_zero h0
    subst this
    rw [← (hr k hk).1]; rfl
  · intro hA
    obtain ⟨es, hes⟩ := h.isMap
    subst hes
    cases es with
    | nil => rfl
    | cons p r =>
      exfalso
      obtain ⟨es', e', _, hk⟩ := h.entries Try.keyLaw
      have hp : p ∈ es' := by cases e'; exact List.mem_cons_self
      have hhas : has (DataW.map (p :: r)) p.1 = true := by
        rw [has_eq, List.any_cons, WideAt.sameKey_self (hk p hp)]; rfl
      obtain ⟨k, hw, hkl⟩ := lm_key h hhas
      have := (hr k hw).1
      rw [← hkl, hhas, hA k hw] at this
      cases this

theorem lm_lookup {w : World} {b n : Nat} {A : Key → Bool} {F : Key → Int} (h : LM w b n A F) {k : Key} (hk : k.wf) : (Instr.lookup 123 (.map (some b)) (keyV k) false).run Try.prog w = .ok (.int .i64 (F k)) w := by
  obtain ⟨D, hD, hr⟩ := h
  obtain ⟨c, hrun, hat, -⟩ := hD.lookup_int Try.keyLaw Try.underlying123 Try.underlying3 (Try.zeroInt w) (kl_of hk)
  have := (hr k hk).2
  rw [hat] at this
  simp only [DataW.lit.injEq, Lit.int.injEq, true_and] at this
  rw [hrun, this]
theorem lm_store {w : World} {b n : Nat} {A : Key → Bool} {F : Key → Int} (h : LM w b n A F) (hn : n < maxLen) {k : Key} (hk : k.wf) {v : Int} (hv : (Lit.int .i64 v).wf = true) :
    ∃ w', (Instr.mapUpdate 123 (.map (some b)) (keyV k) (.int .i64 v)).run Try.prog w = .ok () w' ∧ LM w' b (n + 1) (setK A k true) (setK F k v) ∧ w.grownBy w' (some b) := by
  obtain ⟨D, hD, hr⟩ := h
  obtain ⟨w', h1, h2, h3⟩ := hD.update Try.keyLaw Try.underlying123 hn (kl_of hk) (plainElem_int Try.underlying3 hv)
  exact ⟨w', h1, ⟨_, h2, readsAs_put hD.isMap hr hk v⟩, h3⟩
theorem lm_wf {w : World} {b n : Nat} {A : Key → Bool} {F : Key → Int} (h : LM w b n A F) {k : Key} (hk : k.wf) : (Lit.int .i64 (F k)).wf = true := by
  obtain ⟨D, hD, hr⟩ := h
  obtain ⟨c, -, hat, hw⟩ := hD.lookup_int Try.keyLaw Try.underlying123 Try.underlying3 (Try.zeroInt w) (kl_of hk)
  have := (hr k hk).2
  rw [hat] at this
  simp only [DataW.lit.injEq, Lit.int.injEq, true_and] at this
  rw [← this]; exact hw

/-- 'm[k] += ..': the block before the entry is made, the block behind it, the entry's stamp. -/
structure Ent (b n : Nat) (k : Key) (A : Key → Bool) (F : Key → Int) (E0 E1 : Obj) (st : Nat) : Prop where
  entry : ∀ w : World, (w.heap[b]? = some E0 ∨ w.heap[b]? = some E1) → (Instr.mapEntry 123 (.map (some b)) (keyV k)).run Try.prog w = .ok (.tuple #[.int .i64 (F k), .int .i64 st]) (setBlock w b E1)
  look : ∀ w : World, (w.heap[b]? = some E0 ∨ w.heap[b]? = some E1) → (Instr.lookup 123 (.map (some b)) (keyV k) false).run Try.prog w = .ok (.int .i64 (F k)) w
  store : ∀ (w : World) (v : Int), (Lit.int .i64 v).wf = true → w.heap[b]? = some E1 → ∃ E', (Instr.entryStore 123 (.map (some b)) (.int .i64 st) (.int .i64 v)).run Try.prog w = .ok () (setBlock w b E') ∧ LM (setBlock w b E') b (n + 1) (setK A k true) (setK F k v)
theorem lm_ent {w0 : World} {b n : Nat} {A : Key → Bool} {F : Key → Int} (h : LM w0 b n A F) (hn : n < maxLen) {k : Key} (hk : k.wf) : ∃ E0 E1 st, w0.heap[b]? = some E0 ∧ Ent b n k A F E0 E1 st := by
  have hL := lm_lookup h hk
  have h0 := h
  obtain ⟨D, ⟨es, clock, hb, Ft, hs, hD⟩, hr⟩ := h0
  obtain ⟨v0, st, es1, clock1, e1, e2, l1, l2, hst⟩ := entry_all (b := b) Try.keyLaw Try.underlying123 Try.zeroInt Ft (kl_of hk)
  have hv0 : v0 = .int .i64 (F k) := by
    have := l1 w0 hb
    rw [hL] at this
    simp only [Result.ok.injEq, and_true] at this
    exact this.symm
  subst hv0
  refine ⟨_, .map es1 clock1, st, hb, fun w hw => hw.elim (e1 w) (e2 w), fun w hw => hw.elim (l1 w) (l2 w), fun w v hv hw => ?_⟩
  obtain ⟨es', clock', s1, s2⟩ := hst (.int .i64 v)
  refine ⟨_, s1 w hw, ?_⟩
  obtain ⟨w', u1, u2, -⟩ := lm_store h hn hk hv
  rw [s2 w0 hb] at u1
  simp only [Result.ok.injEq, true_and] at u1
  subst u1
  refine lm_heap u2 ?_
  rw [ChangeMaps.heap_setBlock_same hw, ChangeMaps.heap_setBlock_same hb]
theorem sb_same {w : World} {b : Nat} {o o' : Obj} (h : w.heap[b]? = some o) : (setBlock w b o').heap[b]? = some o' := by
  have := (Array.getElem?_eq_some_iff.1 h).1
  simp [setBlock, this]
theorem sb_other (w : World) {b i : Nat} (o' : Obj) (h : i ≠ b) : (setBlock w b o').heap[i]? = w.heap[i]? := by
  simp [setBlock, Array.getElem?_setIfInBounds_ne (Ne.symm h)]
theorem sb_grown (w : World) (b : Nat) (o' : Obj) : w.grownBy (setBlock w b o') (some b) :=
  ⟨rfl, rfl, rfl, by simp [setBlock], fun i _ hi => sb_other w o' fun e => hi (by rw [e])⟩

theorem lm_drop {w : World} {b n : Nat} {A : Key → Bool} {F : Key → Int} (h : LM w b n A F) {k : Key} (hk : k.wf) (ty : TypeId) :
    ∃ w', (Builtin.delete_ #[123, 139] ty #[.map (some b), keyV k]).run Try.prog w = .ok (.tuple #[]) w' ∧ LM w' b n (setK A k false) (setK F k 0) ∧ w.grownBy w' (some b) ∧ w'.heap.size = w.heap.size := by
  obtain ⟨D, hD, hr⟩ := h
  obtain ⟨w', h1, h2, h3⟩ := hD.drop Try.keyLaw Try.underlying123 (kl_of hk) ty
  refine ⟨w', h1, ⟨_, h2, readsAs_del hr hk⟩, h3.grown, ?_⟩
  obtain ⟨es, c, es', c', -, rfl⟩ := h3
  simp [setBlock]
theorem wpList_deleteLM (w : World) {ops : Array Oper} {rest : List Oper} {o : Oper} {a : Act} {Q : Exit → Act → World → Prop} {b n : Nat} {A : Key → Bool} {F : Key → Int} {k : Key} (hg : o.guard = none) (m x : Operand)
    (hop : o.op = Op.call { callee := Callee.builtin Builtin.delete, args := #[m, x], argTypes := #[123, 139] }) (hm : a.eval m = .map (some b)) (hx : a.eval x = keyV k) (h : LM w b n A F) (hk : k.wf)
    (hK : ∀ w', LM w' b n (setK A k false) (setK F k 0) → w.grownBy w' (some b) → w'.heap.size = w.heap.size → wpList Try.prog ops Q rest (a.put o.dst (.tuple #[])) w') : wpList Try.prog ops Q (o :: rest) a w := by
  refine wpList_plain hg fun K' hK' => ?_
  obtain ⟨w', hrun, r1, r2, r3⟩ := lm_drop h hk o.type
  unfold Oper.wp
  simp [execOp, hop, resolve, invoke, builtin, hm, hx, hrun, Result.andThen]
  exact hK' _ _ (hK w' r1 r2 r3)
theorem wpList_lookupLM (w : World) {ops : Array Oper} {rest : List Oper} {o : Oper} {a : Act} {Q : Exit → Act → World → Prop} {b n : Nat} {A : Key → Bool} {F : Key → Int} {k : Key} (hg : o.guard = none) (m x : Operand)
    (hop : o.op = Op.lookup 123 m x false) (hm : a.eval m = .map (some b)) (hx : a.eval x = keyV k) (h : LM w b n A F) (hk : k.wf)
    (hK : wpList Try.prog ops Q rest (a.put o.dst (.int .i64 (F k))) w) : wpList Try.prog ops Q (o :: rest) a w := by
  refine wpList_plain hg fun K' hK' => ?_
  unfold Oper.wp
  simp [execOp, hop, hm, hx, lm_lookup h hk, Result.andThen]
  exact hK' _ _ hK
theorem wpList_lenLM (w : World) {ops : Array Oper} {rest : List Oper} {o : Oper} {a : Act} {Q : Exit → Act → World → Prop} {b n : Nat} {A : Key → Bool} {F : Key → Int} (hg : o.guard = none) (m : Operand)
    (hop : o.op = Op.call { callee := Callee.builtin Builtin.len, args := #[m], argTypes := #[123] }) (hm : a.eval m = .map (some b)) (h : LM w b n A F)
    (hK : ∀ s : Nat, s ≤ n → (s = 0 ↔ ∀ k : Key, k.wf → A k = false) → wpList Try.prog ops Q rest (a.put o.dst (.int .i64 s)) w) : wpList Try.prog ops Q (o :: rest) a w := by
  refine wpList_plain hg fun K' hK' => ?_
  obtain ⟨D, hD, hr⟩ := h
  have hrun := hD.len Try.underlying123 o.type
  unfold Oper.wp
  simp [execOp, hop, resolve, invoke, builtin, hm, hrun, Result.andThen]
  exact hK' _ _ (hK _ hD.size_le (lm_size hD hr))

/-- 'for k, v := range m' under way: left says which lines are still to come. -/
def LR (w : World) (b r n : Nat) (A : Key → Bool) (F : Key → Int) (left : Key → Bool) (cnt : Nat) : Prop :=
  ∃ (D : DataW Unit) (lf : Lit → Bool), w.ranges Try.prog 139 (plainElem (H := Unit) Try.prog 3) b r n D lf cnt ∧ ReadsAs D A F ∧ ∀ k, k.wf → lf (kl k) = left k
theorem lr_owns {w : World} {b r n : Nat} {A : Key → Bool} {F : Key → Int} {left : Key → Bool} {cnt : Nat} (h : LR w b r n A F left cnt) : LM w b n A F := by
  obtain ⟨D, lf, h1, h2, -⟩ := h
  exact ⟨D, h1.owns, h2⟩
theorem lr_left {w : World} {b r n : Nat} {A : Key → Bool} {F : Key → Int} {left : Key → Bool} {cnt : Nat} (h : LR w b r n A F left cnt) : w.rangeLeft b r = cnt := by
  obtain ⟨D, lf, h1, -⟩ := h
  exact h1.left_eq
theorem lr_lt {w : World} {b r n : Nat} {A : Key → Bool} {F : Key → Int} {left : Key → Bool} {cnt : Nat} (h : LR w b r n A F left cnt) : r < w.heap.size := by
  obtain ⟨D, lf, h1, -⟩ := h
  exact h1.lt
theorem lr_grown {w w' : World} {b r n : Nat} {A : Key → Bool} {F : Key → Int} {left : Key → Bool} {cnt : Nat} {row : Option Nat} (h : LR w b r n A F left cnt) (hg : w.grownBy w' row) (hb : row ≠ some b) (hr : row ≠ some r) : LR w' b r n A F left cnt := by
  obtain ⟨D, lf, h1, h2, h3⟩ := h
  exact ⟨D, lf, h1.kept hg (Ne.symm hb) (Ne.symm hr), h2, h3⟩
theorem lr_below {w w' : World} {b r n : Nat} {A : Key → Bool} {F : Key → Int} {left : Key → Bool} {cnt : Nat} (h : LR w b r n A F left cnt) (hb : Below w.heap.size w w') : LR w' b r n A F left cnt :=
  lr_grown h (grown_of_below hb none) (by simp) (by simp)
theorem wpList_rangeLM (w : World) {ops : Array Oper} {rest : List Oper} {o : Oper} {a : Act} {Q : Exit → Act → World → Prop} {b n : Nat} {A : Key → Bool} {F : Key → Int} (hg : o.guard = none) (m : Operand) (hop : o.op = Op.range 123 m) (hm : a.eval m = .map (some b)) (h : LM w b n A F)
    (hK : ∀ w' cnt, LR w' b w.heap.size n A F A cnt → Below w.heap.size w w' → w'.heap.size = w.heap.size + 1 → wpList Try.prog ops Q rest (a.put o.dst (.pointer (some ⟨w.heap.size, 0, none⟩))) w') : wpList Try.prog ops Q (o :: rest) a w := by
  obtain ⟨D, hD, hr⟩ := h
  refine wpList_range_own w hg m _ hop _ _ Try.keyLaw Try.underlying123 _ b n D hm hD fun w' h1 h2 h3 => hK w' _ ⟨D, _, h1, hr, fun k hk => (hr k hk).1⟩ (grown_below h2 (fun k hk => by cases hk) (Nat.le_refl _)) h3
theorem wpList_nextLR (w : World) {ops : Array Oper} {rest : List Oper} {o : Oper} {a : Act} {Q : Exit → Act → World → Prop} {b r n : Nat} {A : Key → Bool} {F : Key → Int} {left : Key → Bool} {cnt : Nat} (hg : o.guard = none) (it : Operand) (hop : o.op = Op.next it false)
    (hit : a.eval it = .pointer (some ⟨r, 0, none⟩)) (h : LR w b r n A F left cnt)
    (hDone : (∀ k : Key, k.wf → left k = false) → wpList Try.prog ops Q rest (a.put o.dst (.tuple #[.bool false])) w)
    (hMore : ∀ (k : Key) (w' : World) (cnt' : Nat), k.wf → left k = true → LR w' b r n A F (fun z => left z && !decide (z = k)) cnt' → cnt' < cnt → w.grownBy w' (some r) → w'.heap.size = w.heap.size →
      (Instr.entry (.pointer (some ⟨r, 0, none⟩))).run Try.prog w' = .ok (.tuple #[keyV k, .int .i64 (F k)]) w' → wpList Try.prog ops Q rest (a.put o.dst (.tuple #[.bool true, keyV k, .int .i64 (F k)])) w') : wpList Try.prog ops Q (o :: rest) a w := by
  obtain ⟨D, lf, h1, h2, h3⟩ := h
  refine wpList_next_ranges w hg it hop _ Try.keyLaw _ keyV (Value.int .i64) (fun key l hk => ?_) (fun v y hv => ?_) b r n D lf cnt hit h1 (fun _ hl => hDone fun k hk => by rw [← h3 k hk]; exact hl _) fun x c l y w' cnt' q1 q2 q3 q4 q5 q6 q7 q8 q9 => ?_
  · obtain ⟨k, hk, -⟩ := key_inv hk
    exact ⟨k, hk⟩
  · obtain ⟨c, hc, -⟩ := plainElem_int_inv Try.underlying3 hv
    exact ⟨c, hc⟩
  · obtain ⟨k, hk, hw⟩ := key_inv q1
    obtain rfl := keyV_inj hk
    have hl : l = kl x := by rw [kl_of hw] at q1; exact (Option.some.inj q1).symm
    subst hl
    obtain ⟨c', hc, hy, -⟩ := plainElem_int_inv Try.underlying3 q3
    cases hc
    have hF : F x = c := by
      have e1 := (h2 x hw).2
      rw [q4, hy] at e1
      simp only [DataW.lit.injEq, Lit.int.injEq, true_and] at e1
      exact e1.symm
    subst hF
    refine hMore x w' cnt' hw (by rw [← h3 x hw]; exact q2) ⟨D, _, q5, h2, fun z hz => ?_⟩ q6 q7 q8 q9
    simp only [h3 z hz]
    congr 2
    by_cases e : z = x
    · subst e; rw [decide_eq_true rfl, WideAt.sameKey_self (kl_key hz)]
    · rw [decide_eq_false e, sameKey_ne fun h => e (kl_inj hz hw h)]
end Go.Proofs.Ytiajdmoppgpgnaa
