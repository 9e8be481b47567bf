/-
  Texts of this claim, one behind the other: Grid, GszB, Hold, Sums, LawsQ, TotT, RowSS, RowS, White, Arr, SpecE.
-/
import Derived.Test.YtjnnoabaepmcnaaPackF
import Derived.Test.YtjnnoabaepmcnaaPackE
import Derived.Test.YtjnnoabaepmcnaaPackC
import Derived.Deep.CutRange
import Derived.BigQuiet
import Derived.Test.YtjnnoabaepmcnaaPackB
import Derived.Test.YtjnnoabaepmcnaaPackD
import Derived.Test.YtjnnoabaepmcnaaPackA
import Derived.Laws.CopyOwn
/-
  Grids in variables; collect over rows of zeros; zeroGrid.
-/
namespace Go.Proofs.Ytjnnoabaepmcnaa
open Go.RowKit
set_option maxRecDepth 100000

abbrev gridV (R C : Int) (v : Value) : Value := .agg #[.int .i64 R, .int .i64 C, v]
/-- A grid in a variable. -/
def GridAt (w : World) (g : Nat) (R C : Int) (v : Value) : Prop := w.heap[g]? = some (.cells #[.int .i64 R, .int .i64 C, v] 68 (0, 0))
theorem gridAt_lt {w : World} {g : Nat} {r c : Int} {v : Value} (h : GridAt w g r c v) : g < w.heap.size := (Array.getElem?_eq_some_iff.1 h).1
theorem gridAt_below {w w' : World} {g : Nat} {r c : Int} {v : Value} (h : GridAt w g r c v) (hb : Below w.heap.size w w') : GridAt w' g r c v := by
  unfold GridAt; rw [hb.block g (gridAt_lt h)]; exact h
theorem gridAt_grown {w w' : World} {g : Nat} {r c : Int} {v : Value} {row : Option Nat} (h : GridAt w g r c v) (hg : w.grownBy w' row) (hr : row ≠ some g) : GridAt w' g r c v := by
  unfold GridAt; rw [hg.block g (gridAt_lt h) (Ne.symm hr)]; exact h
theorem gridAt_within {w w' : World} {g lo hi : Nat} {r c : Int} {v : Value} (h : GridAt w g r c v) (hw : Within lo hi w w') (ha : g < lo ∨ hi ≤ g) : GridAt w' g r c v := by
  unfold GridAt; rw [hw.block g (gridAt_lt h) ha]; exact h
theorem gridAt_cells {w : World} {g : Nat} {r c : Int} {v : Value} (h : GridAt w g r c v) : w.cell? ⟨g, 0, none⟩ = some (.int .i64 r) ∧ w.cell? ⟨g, 1, none⟩ = some (.int .i64 c) ∧ w.cell? ⟨g, 2, none⟩ = some v :=
  ⟨by rw [cell_of_row w g 0 _ _ _ h]; rfl, by rw [cell_of_row w g 1 _ _ _ h]; rfl, by rw [cell_of_row w g 2 _ _ _ h]; rfl⟩
theorem Try.sizeGr : (Try.prog.info? 68).map (·.size) = some 3 := by kernel_rfl
theorem wpList_loadGr {ops : Array Oper} {rest : List Oper} {o : Oper} {a : Act} {Q : Exit → Act → World → Prop} {W : World} {g : Nat} {r c : Int} {v : Value} (hb : GridAt W g r c v)
    (hgd : o.guard = none) (x : Operand) (ho : o.op = .load 68 x) (hx : a.eval x = .pointer (some ⟨g, 0, none⟩))
    (h : wpList Try.prog ops Q rest (a.put o.dst (gridV r c v)) W) : wpList Try.prog ops Q (o :: rest) a W :=
  wpList_load_row hgd _ x ho g hx _ _ (0, 0) _ hb Try.underlying68 rfl Try.sizeGr h
theorem exec_loadGr {ρ : Operand → Value} {o : Oper} {w : World} {x : Operand} {g : Nat} {r c : Int} {v : Value} (ho : o.op = .load 68 x) (hx : ρ x = .pointer (some ⟨g, 0, none⟩)) (hb : GridAt w g r c v) : (execOp ρ o).run Try.prog w = .ok (.value (gridV r c v)) w := by
  unfold execOp
  simp only [ho, hx, Instr.loadAt, Instr.sureAddr, Sem.run_bind, Sem.run_pure, Result.andThen_ok, run_loadVar_row w g _ _ _ _ _ hb Try.underlying68 rfl Try.sizeGr]
theorem exec_storeGr {ρ : Operand → Value} {o : Oper} {w : World} {x y : Operand} {g : Nat} {r0 c0 : Int} {v0 : Value} (r c : Int) (v : Value) (ho : o.op = .store 68 x y) (hx : ρ x = .pointer (some ⟨g, 0, none⟩)) (hy : ρ y = gridV r c v) (hb : GridAt w g r0 c0 v0) (hv : v.oneCell' = true) :
    ∃ w', (execOp ρ o).run Try.prog w = .ok .skip w' ∧ GridAt w' g r c v ∧ w.grownBy w' (some g) ∧ w'.heap.size = w.heap.size := by
  unfold execOp
  simp only [ho, hx, hy, gridV, Instr.storeAt, Instr.sureAddr, Sem.run_bind, Sem.run_pure, Result.andThen_ok, run_storeVar_row w g 68 68 #[.int .i64 r0, .int .i64 c0, v0] #[.int .i64 r, .int .i64 c, v] hb (by rw [Try.sizeGr]; rfl) rfl (by simp [Value.oneCell'] <;> simpa [Value.oneCell'] using hv)]
  exact ⟨_, rfl, setRow_heap w g _ _ _ (0, 0) hb, ⟨rfl, rfl, rfl, by simp, fun k hk hr => setRow_other w g k _ (fun e => hr (by rw [e]))⟩, by simp⟩
theorem wpList_storeGr {ops : Array Oper} {rest : List Oper} {o : Oper} {a : Act} {Q : Exit → Act → World → Prop} {W : World} {g : Nat} {r0 c0 : Int} {v0 : Value} (hb : GridAt W g r0 c0 v0) (r c : Int) (v : Value) (hv : v.oneCell' = true)
    (hgd : o.guard = none) (x y : Operand) (ho : o.op = .store 68 x y) (hx : a.eval x = .pointer (some ⟨g, 0, none⟩)) (hy : a.eval y = gridV r c v)
    (h : ∀ w', GridAt w' g r c v → W.grownBy w' (some g) → w'.heap.size = W.heap.size → wpList Try.prog ops Q rest (a.put o.dst undef) w') : wpList Try.prog ops Q (o :: rest) a W := by
  refine wpList_plain hgd fun K hK => ?_
  obtain ⟨w', h1, h2, h3, h4⟩ := exec_storeGr (ρ := a.eval) r c v ho hx hy hb hv
  unfold Oper.wp
  rw [h1]
  exact hK _ _ (h w' h2 h3 h4)
theorem ownMat_slice {w : World} {lo hi : Nat} {v : Value} {m : List (List Int)} (h : OwnMat w lo hi v m) : ∃ a n c, v = .slice a n c := by
  obtain ⟨vs, ho, -⟩ := h
  obtain ⟨a, c, rfl⟩ := own_slice ho
  exact ⟨a, _, c, rfl⟩
theorem exec_field0S {ρ : Operand → Value} {o : Oper} {w : World} {x : Operand} {g : Nat} (ho : o.op = .fieldAddr 66 x 0) (hx : ρ x = .pointer (some ⟨g, 0, none⟩)) : (execOp ρ o).run Try.prog w = .ok (.value (.pointer (some ⟨g, 0, none⟩))) w := by
  unfold execOp
  simp only [ho, hx]
  go_simp
theorem exec_loadS0 {ρ : Operand → Value} {o : Oper} {w : World} {x : Operand} {g : Nat} {r c : Int} (ho : o.op = .load 3 x) (hx : ρ x = .pointer (some ⟨g, 0, none⟩)) (hb : SizeAt w g r c) : (execOp ρ o).run Try.prog w = .ok (.value (.int .i64 r)) w := by
  obtain ⟨h0, -⟩ := sizeAt_cells hb
  unfold execOp
  simp only [ho, hx]
  go_simp
theorem exec_fun1 {ρ : Operand → Value} {o : Oper} {w : World} {x : Operand} {f : FuncId} {v : Value} (ho : o.op = .makeFunc (.func f) #[] #[x]) (hx : ρ x = v) : (execOp ρ o).run Try.prog w = .ok (.value (.func (.func f) #[] #[v])) w := by
  unfold execOp
  simp only [ho]
  go_simp
theorem exec_buildGrid {ρ : Operand → Value} {o : Oper} {w : World} {x y : Operand} {r c : Int} {v : Value} (ho : o.op = .build 68 #[(0, x), (1, y)]) (hx : ρ x = .agg #[.int .i64 r, .int .i64 c]) (hy : ρ y = v) (hv : ∃ a n c, v = .slice a n c) : (execOp ρ o).run Try.prog w = .ok (.value (gridV r c v)) w := by
  obtain ⟨a, n, c', rfl⟩ := hv
  unfold execOp gridV
  simp only [ho]
  go_simp

set_option maxHeartbeats 400000 in
theorem zeroRow_any (k C g R : Nat) (w : World) (hs : SizeAt w g R C) (hC : C ≤ 40) :
    Calls Try.prog 82 #[.int .i64 ((k : Int) + 1), .pointer (some ⟨g, 0, none⟩)] w fun e w' => ∃ v, e = .returned v ∧ w'.ownsRow w.heap.size 3 1 v C (ints (rowF C fun _ => 0)) ∧ Below w.heap.size w w' := by
  obtain ⟨h0, h1⟩ := sizeAt_cells hs
  clear hs
  go_enter Try.func82, Try.ntmps82
  go_wp2_with (at_make; refine wpList_new w.heap.size C (.int .i64 0) rfl _ _ rfl Try.underlying30 Try.infoInt rfl (by decide) rfl rfl (by omega) (Nat.le_refl _) ?_; intro w1 hown1 hb1 hg1; have HO := hide hown1; have HB := hide hb1; clear hown1 hb1 hg1)
  go_ret
  have e : List.replicate C (Value.int .i64 0) = ints (rowF C fun _ => 0) := by
    apply List.ext_getElem
    · simp [ints, rowF]
    · intro i h1 h2; simp [ints, rowF]
  exact ⟨_, rfl, by rw [← e]; exact HO.out, HB.out⟩
set_option maxHeartbeats 1000000 in
theorem collectZ_any (gf : Nat) (C : Nat) (cb : Array Value) (n : Nat) (w : World) (eg : ∀ args w, (callFunc gf args).run Try.prog w = .ok (.enter gf args) w) (hn : n ≤ 40)
    (hF : ∀ (k : Nat) (W : World), k < n → Below w.heap.size w W → Calls Try.prog gf (#[.int .i64 ((k : Int) + 1)] ++ cb) W fun e W' => ∃ v, e = .returned v ∧ W'.ownsRow W.heap.size 3 1 v C (ints (rowF C fun _ => 0)) ∧ Below W.heap.size W W') :
    Calls Try.prog 81 #[.int .i64 n, .func (.func gf) #[] cb] w fun e w' => ∃ v, e = .returned v ∧ OwnMat w' w.heap.size w'.heap.size v (mkM n C fun _ _ => 0) ∧ Below w.heap.size w w' := by
  have HF := hide hF
  obtain ⟨m, hm⟩ : ∃ m, m = mkM n C fun _ _ => (0 : Int) := ⟨_, rfl⟩
  have HM0 := hide hm
  have hml : m.length = n := by rw [hm, mkM_len]
  have HML := hide hml
  rw [← hm]
  clear hF hm hml
  go_enter Try.func81, Try.ntmps81
  go_wp2_with (at_make; refine wpList_new w.heap.size n (.slice none 0 0) rfl _ _ rfl Try.underlying23 Try.infoInts rfl (by decide) rfl rfl (by omega) (Nat.le_refl _) ?_; intro w1 hown1 hb1 hg1)
  have HO := hide hown1; have HB := hide hb1
  clear hown1 hb1 hg1
  go_wp2
  go_loopw [10] (fun i w' => ∃ k : Nat, k ≤ n ∧ i = .int .i64 k ∧ OwnMat w' w.heap.size w'.heap.size (.slice (some ⟨w.heap.size, 0, none⟩) n n) (fillM m k) ∧ Below w.heap.size w w') (fun i _ => n - (intOf i).toNat)
  case atStart => exact ⟨0, Nat.zero_le _, rfl, by rw [fillM_zero, HML.out]; exact ownMat_fresh _ HO.out (HO.out.lt _ rfl).2, HB.out⟩
  case round =>
    clear HO HB
    obtain ⟨k, hk, rfl, hown, hb⟩ := hrel
    have HO := hide hown; have HB := hide hb
    clear hown hb
    by_cases hlt : k < n
    · have hkm : k < m.length := by rw [HML.out]; exact hlt
      have HCA := hide (HF.out k wr hlt HB.out)
      have HL := hide (fillM_len m k (by omega))
      have HFS := hide (fillM_set m k hkm)
      have HRW : Hid (m[k] = rowF C fun _ => 0) := hide (by
        have h := HM0.out
        subst h
        rw [mkM_at])
      go_wp2_with fail
      refine HCA.out.mono ?_
      rintro e w2 ⟨v2, rfl, ho2, hb2⟩
      obtain ⟨a2, c2, rfl⟩ := own_slice ho2
      have HO2 := hide ho2; have HB2 := hide hb2
      clear ho2 hb2
      have HM := hide (ownMat_below HO.out HB2.out)
      obtain ⟨u0, hx2, hf2, -, -, -⟩ := ownMat_row HM.out k (by rw [HL.out]; exact hkm)
      go_wp2
      go_roundw
      case rel =>
        have hp := ownMat_put (r := rowF C fun _ => 0) (hi' := w2.heap.size) HM.out k (by rw [HL.out]; exact hkm) (by rw [rowF_len]; exact HO2.out) HB.out.size (Nat.le_refl _) HB2.out.size
        rw [← HRW.out, HFS.out] at hp
        exact ⟨k + 1, by omega, by go_num, ownMat_mono hp (Nat.le_refl _) (by simp), (HB.out.trans (HB2.out.mono HB.out.size)).setCell (Nat.le_refl _) _⟩
      case measure => simp [intOf]; omega
    · have HE : Hid (fillM m k = m) := hide (fillM_all _ _ (by rw [HML.out]; omega))
      go_wp2
      go_ret
      exact ⟨_, rfl, by have := HO.out; rw [HE.out] at this; exact this, HB.out⟩

/-- What answers a grid of the call's own. -/
def GridRes (R C : Nat) (f : Nat → Nat → Int) (w : World) (e : Ending) (w' : World) : Prop := ∃ v, e = .returned (gridV R C v) ∧ OwnMat w' w.heap.size w'.heap.size v (mkM R C f) ∧ Below w.heap.size w w'
set_option maxHeartbeats 2000000 in
theorem zeroGrid_any (R C : Nat) (w : World) (hR : R ≤ 40) (hC : C ≤ 40) :
    Calls Try.prog 69 #[.agg #[.int .i64 R, .int .i64 C]] w (GridRes R C (fun _ _ => 0) w) := by
  have HB0 := hide (((Below.refl w.heap.size w).alloc (Nat.le_refl _) (.cells #[.int .i64 R, .int .i64 C] 66)).alloc (by simp) (.cells #[.int .i64 0, .int .i64 0, .slice none 0 0] 68))
  have HZ : Hid (SizeAt ((w.alloc (.cells #[.int .i64 R, .int .i64 C] 66)).alloc (.cells #[.int .i64 0, .int .i64 0, .slice none 0 0] 68)) w.heap.size R C) := hide (sizeAt_below (heap_alloc_new w _) ((Below.refl _ _).alloc (Nat.le_refl _) _))
  have HG : Hid (GridAt ((w.alloc (.cells #[.int .i64 R, .int .i64 C] 66)).alloc (.cells #[.int .i64 0, .int .i64 0, .slice none 0 0] 68)) (w.heap.size + 1) 0 0 (.slice none 0 0)) := hide (by
    have := heap_alloc_new (w.alloc (.cells #[.int .i64 R, .int .i64 C] 66)) (.cells #[.int .i64 0, .int .i64 0, .slice none 0 0] 68)
    simpa [GridAt] using this)
  go_enter Try.func69, Try.ntmps69
  go_upto_region 1 with fail
  obtain ⟨fs, hfs⟩ : ∃ fs : List FactP, fs = [(isV (.agg #[.int .i64 R, .int .i64 C])), (isV (.pointer (some ⟨w.heap.size, 0, none⟩))), (isV (.int .i64 R)), (isV (.func (.func 82) #[] #[.pointer (some ⟨w.heap.size, 0, none⟩)])), (fun u w2 => OwnMat w2 (w.heap.size + 2) w2.heap.size u (mkM R C fun _ _ => 0)), (fun u w2 => ∃ x, u = gridV R C x ∧ OwnMat w2 (w.heap.size + 2) w2.heap.size x (mkM R C fun _ _ => 0))] := ⟨_, rfl⟩
  have hst : ∀ f ∈ fs, StableP f := by
    rw [hfs]; intro f hf
    simp only [List.mem_cons, List.not_mem_nil, or_false] at hf
    rcases hf with rfl | rfl | rfl | rfl | rfl | rfl <;> first | exact stable_v _ | exact fun u w2 w3 hb h => ownMat_mono (ownMat_below h hb) (Nat.le_refl _) hb.size | exact fun u w2 w3 hb ⟨x, h1, h2⟩ => ⟨x, h1, ownMat_mono (ownMat_below h2 hb) (Nat.le_refl _) hb.size⟩
  subst hfs
  refine wp_region_g (S := fun w2 => (SizeAt w2 w.heap.size R C ∧ GridAt w2 (w.heap.size + 1) 0 0 (.slice none 0 0) ∧ w.heap.size + 2 ≤ w2.heap.size) ∧ Below w.heap.size w w2) [(isV (.agg #[.int .i64 R, .int .i64 C])), (isV (.pointer (some ⟨w.heap.size, 0, none⟩))), (isV (.int .i64 R)), (isV (.func (.func 82) #[] #[.pointer (some ⟨w.heap.size, 0, none⟩)])), (fun u w2 => OwnMat w2 (w.heap.size + 2) w2.heap.size u (mkM R C fun _ _ => 0)), (fun u w2 => ∃ x, u = gridV R C x ∧ OwnMat w2 (w.heap.size + 2) w2.heap.size x (mkM R C fun _ _ => 0))] [(1, .pointer (some ⟨w.heap.size, 0, none⟩))] _ _ 6 (by kernel_rfl) rfl rfl (by kernel_rfl) (by kernel_rfl) rfl (by kernel_rfl) ?base ⟨⟨HZ.out, HG.out, by simp⟩, below_drew HB0.out⟩ ?ob rfl ?fin
  case base =>
    intro t v ht
    simp only [List.lookup_cons, List.lookup_nil] at ht
    repeat' split at ht
    all_goals first | (cases ht; done) | (obtain rfl := Option.some.inj ht; rename_i hh; obtain rfl := eq_of_beq hh; rfl)
  case ob =>
    exact ⟨obg_of rfl (obt_one (.agg #[.int .i64 R, .int .i64 C]) rfl rfl (srt_b 1 rfl) (fun ρ w2 hS hx => exec_loadSz rfl hx hS.1.1)),
      obg_of rfl (obt_one (.pointer (some ⟨w.heap.size, 0, none⟩)) rfl rfl (srt_b 1 rfl) (fun ρ w2 hS hx => exec_field0S rfl hx)),
      obg_of rfl (obt_one (.int .i64 R) rfl rfl (srt_j 1 rfl (by kernel_rfl) rfl) (fun ρ w2 hS hx => exec_loadS0 rfl hx hS.1.1)),
      obg_of rfl (obt_any rfl (fun a w2 hS hs hd => ⟨.func (.func 82) #[] #[.pointer (some ⟨w.heap.size, 0, none⟩)], exec_fun1 rfl (hs _ _ (srt_b 1 rfl)), rfl⟩)),
      obg_of rfl (obt_call hst [.int .i64 R, .func (.func 82) #[] #[.pointer (some ⟨w.heap.size, 0, none⟩)]] rfl Try.func81 (by kernel_rfl) (by kernel_rfl) rfl ⟨(srt_j 2 rfl (by kernel_rfl) rfl), (srt_j 3 rfl (by kernel_rfl) rfl), trivial⟩ (fun w2 hS => (collectZ_any 82 C #[.pointer (some ⟨w.heap.size, 0, none⟩)] R w2 (fun _ _ => rfl) (by omega) (fun k W hk hb => zeroRow_any k C w.heap.size R W (sizeAt_below hS.1.1 hb) (by omega))).mono fun e w3 ⟨u, he, ho, hh⟩ => ⟨_, he, ⟨⟨sizeAt_below hS.1.1 hh, gridAt_below hS.1.2.1 hh, Nat.le_trans hS.1.2.2 hh.size⟩, hS.2.trans (hh.mono hS.2.size)⟩, hh, ownMat_mono ho hS.1.2.2 (Nat.le_refl _)⟩)),
      obg_of rfl (obt_any rfl (fun a w2 hS hs hd => by
      obtain ⟨x, hx⟩ : ∃ x, x = a.tmps.getD 7 undef := ⟨_, rfl⟩
      have h7 : OwnMat w2 (w.heap.size + 2) w2.heap.size x (mkM R C fun _ _ => 0) := by rw [hx]; exact hd 4 7 rfl (by kernel_rfl)
      exact ⟨gridV R C x, exec_buildGrid rfl (hs _ _ (srt_j 0 rfl (by kernel_rfl) rfl)) (show a.eval (.tmp 7) = x from hx.symm) (ownMat_slice h7), x, rfl, h7⟩)),
      trivial⟩
  case fin =>
    intro a' w' h1 h2 h3 hS h4 K hK
    have ha := frame_ov rfl h1 h2 h3 [(3, .agg #[.int .i64 R, .int .i64 C]), (4, .pointer (some ⟨w.heap.size, 0, none⟩)), (5, .int .i64 R), (6, .func (.func 82) #[] #[.pointer (some ⟨w.heap.size, 0, none⟩)]), (7, a'.tmps.getD 7 undef), (8, a'.tmps.getD 8 undef)] (by kernel_rfl) ⟨h4 0 3 rfl (by decide), h4 1 4 rfl (by decide), h4 2 5 rfl (by decide), h4 3 6 rfl (by decide), rfl, rfl, trivial⟩
    dsimp only [ov, List.lookup, Nat.reduceBEq, Nat.reduceAdd] at ha
    obtain ⟨x, hx8, ho⟩ := h4 5 8 rfl (by decide)
    obtain ⟨a9, n9, c9, hxs⟩ := ownMat_slice ho
    obtain ⟨w9, hrun, hg9, hgr, hsz⟩ := exec_storeGr (w := w') (ρ := a'.eval) (o := { dst := none, op := .store 68 (.tmp 2) (.tmp 8), type := 0, pos := "", after := #[], guard := none }) (R : Int) (C : Int) x rfl (h3 2 (by kernel_rfl)) hx8 hS.1.2.1 (by rw [hxs]; rfl)
    refine run_skip (w' := w9) hrun (hK undef _ ?_)
    show Exit.then _ _ Exit.normal a' _
    have HO := hide (ownMat_mono (lo' := w.heap.size) (hi' := w9.heap.size) (ownMat_within (lo' := w.heap.size + 1) (hi' := w.heap.size + 2) ho (within_grown hgr (fun k e => by cases e; omega)) (.inr (Nat.le_refl _))) (by omega) (by omega))
    have HG9 := hide hg9
    have HB9 := hide (hS.2.trans (grown_below hgr (fun k e => by cases e; omega) hS.2.size))
    clear hrun hg9 hgr hsz ho hS hxs a9 n9 c9
    rw [ha]
    generalize a'.tmps.getD 7 undef = u7
    generalize a'.tmps.getD 8 undef = u8
    clear ha h1 h2 h3 h4 hst hK
    clear hx8
    go_wp2
    obtain ⟨q0, q1, q2⟩ := gridAt_cells HG9.out
    refine bodyPost_ret (v := gridV R C x) ?_ rfl ⟨x, rfl, HO.out, HB9.out⟩
    simp [results, Try.results69, go_sem, q0, q1, q2, gridV]
end Go.Proofs.Ytjnnoabaepmcnaa
/-
  GhostSize of both.
-/
namespace Go.Proofs.Ytjnnoabaepmcnaa
open Go.RowKit Go.Katz
set_option maxRecDepth 100000

def gzR (l : List (Int × Int)) : Int := if dirsB l = true then 1 + upI l else 0
def gzC (l : List (Int × Int)) : Int := if dirsB l = true then 1 + overI l else 0
set_option maxHeartbeats 2000000 in
theorem implGhostSize_any (v : Value) (l : List (Int × Int)) (w : World) (hin : DrsC w v l) :
    Calls Try.prog 20 #[v] w fun e w' => e = .returned (.tuple #[.int .i64 (gzR l), .int .i64 (gzC l)]) ∧ Below w.heap.size w w' := by
  have HIN := hide hin
  obtain ⟨a, c, rfl, hlc, -⟩ := hin
  have HOK := hide fun w h => implDirsOk_any (.slice a l.length c) l w h
  cases hd : dirsB l with
  | false =>
    rw [hd] at HOK
    have HD := hide hd
    clear hd hlc
    go_enter Try.func20, Try.ntmps20
    go_wp2_with ((with_reducible refine (HOK.out _ HIN.out).mono ?_); rintro e w1 ⟨rfl, hb⟩; have HB := hide hb; clear hb)
    go_ret2
    exact ⟨by rw [gzR, gzC, HD.out]; rfl, HB.out⟩
  | true =>
    rw [hd] at HOK
    have HD := hide hd
    have HG := hide fun w h => ghostSize_any (.slice a l.length c) l w h (dirsB_near hd) (dirsB_len hd).2
    have HR : Hid (gzR l = 1 + upI l ∧ gzC l = 1 + overI l) := hide ⟨if_pos hd, if_pos hd⟩
    obtain ⟨U, hU⟩ : ∃ U, U = 1 + upI l := ⟨_, rfl⟩
    obtain ⟨V, hV⟩ : ∃ V, V = 1 + overI l := ⟨_, rfl⟩
    rw [← hU, ← hV] at HG HR
    clear hd hlc hU hV
    rw [HR.out.1, HR.out.2]
    go_enter Try.func20, Try.ntmps20
    go_wp2_with (first | ((with_reducible refine (HOK.out _ HIN.out).mono ?_); rintro e w1 ⟨rfl, hb⟩; have HB := hide hb; clear hb) | ((with_reducible refine (HG.out _ (drsC_in (drsC_below HIN.out HB.out))).mono ?_); rintro e w2 ⟨rfl, hb⟩; have HB2 := hide (HB.out.trans (hb.mono HB.out.size)); have hbx : Below w2.heap.size w2 (w2.alloc (.cells #[.int .i64 U, .int .i64 V] 66)) := (Below.refl _ _).alloc (Nat.le_refl _) _; have HB3 := hide (HB2.out.trans (hbx.mono HB2.out.size)); clear hb hbx))
    go_quiet (fail)
    go_wp2
    go_ret2
    exact ⟨rfl, below_draws HB3.out _⟩

end Go.Proofs.Ytjnnoabaepmcnaa
/-
  A size that is that of an image; a rectangle within another one.
-/
namespace Go.Proofs.Ytjnnoabaepmcnaa
open Go.RowKit Go.Katz
set_option maxRecDepth 100000

set_option maxHeartbeats 1000000 in
theorem sizeok_any (r c : Int) (w : World) :
    Calls Try.prog 48 #[.agg #[.int .i64 r, .int .i64 c]] w fun e w' => e = .returned (.bool (sizeOk r c)) ∧ Below w.heap.size w w' := by
  have HS : Hid (sizeOk r c = (decide (1 ≤ r ∧ r ≤ 5) && decide (1 ≤ c ∧ c ≤ 5))) := hide rfl
  by_cases h1 : 1 ≤ r ∧ r ≤ 5
  · have H1 := hide (decide_eq_true h1)
    clear h1
    go_enter Try.func48, Try.ntmps48
    go_wp2_with (first | (with_reducible refine (sideOk_any r _).mono ?_; rw [H1.out]; rintro e w' ⟨rfl, rfl⟩) | (with_reducible refine (sideOk_any c _).mono ?_; rintro e w' ⟨rfl, rfl⟩))
    go_ret
    exact ⟨ret_bool (by rw [HS.out, H1.out]; simp), (Below.refl _ _).alloc (Nat.le_refl _) _⟩
  · have H1 := hide (decide_eq_false h1)
    clear h1
    go_enter Try.func48, Try.ntmps48
    go_wp2_with (first | (with_reducible refine (sideOk_any r _).mono ?_; rw [H1.out]; rintro e w' ⟨rfl, rfl⟩))
    go_ret
    exact ⟨ret_bool (by rw [HS.out, H1.out]; rfl), (Below.refl _ _).alloc (Nat.le_refl _) _⟩

def holdsB (a b c d y x : Int) : Bool := decide (0 ≤ y) && decide (y ≤ a - c) && decide (0 ≤ x) && decide (x ≤ b - d)
set_option maxHeartbeats 2000000 in
theorem holds_any (a b c d y x : Int) (w : World) (ha : 0 ≤ a ∧ a ≤ 100) (hb : 0 ≤ b ∧ b ≤ 100) (hc : 0 ≤ c ∧ c ≤ 100) (hd : 0 ≤ d ∧ d ≤ 100) :
    Calls Try.prog 56 #[.agg #[.int .i64 a, .int .i64 b], .agg #[.int .i64 c, .int .i64 d], .int .i64 y, .int .i64 x] w fun e w' => e = .returned (.bool (holdsB a b c d y x)) ∧ Below w.heap.size w w' := by
  have l1 : IntKind.i64.wrap (a - c) = a - c := IntWalk.i64_in _ (by omega)
  have l2 : IntKind.i64.wrap (b - d) = b - d := IntWalk.i64_in _ (by omega)
  have HB : Hid (Below w.heap.size w ((w.alloc (.cells #[.int .i64 a, .int .i64 b] 66)).alloc (.cells #[.int .i64 c, .int .i64 d] 66))) := hide (((Below.refl _ _).alloc (Nat.le_refl _) _).alloc (by simp) _)
  clear ha hb hc hd
  by_cases h1 : 0 ≤ y
  · by_cases h2 : y ≤ a - c
    · by_cases h3 : 0 ≤ x
      · have HE : Hid (holdsB a b c d y x = decide (x ≤ b - d)) := hide (by simp [holdsB, h1, h2, h3])
        rw [HE.out]
        go_enter Try.func56, Try.ntmps56
        go_wp2
        go_ret
        exact ⟨rfl, HB.out⟩
      · have HE : Hid (holdsB a b c d y x = false) := hide (by simp [holdsB, h3])
        rw [HE.out]
        go_enter Try.func56, Try.ntmps56
        go_wp2
        go_ret
        exact ⟨rfl, HB.out⟩
    · have HE : Hid (holdsB a b c d y x = false) := hide (by simp [holdsB, h2])
      rw [HE.out]
      go_enter Try.func56, Try.ntmps56
      go_wp2
      go_ret
      exact ⟨rfl, HB.out⟩
  · have HE : Hid (holdsB a b c d y x = false) := hide (by simp [holdsB, h1])
    rw [HE.out]
    go_enter Try.func56, Try.ntmps56
    go_wp2
    go_ret
    exact ⟨rfl, HB.out⟩

/-- The rows are fewer than the ghost's, or the columns. -/
def detB (rows cols : Int) (l : List (Int × Int)) : Bool := sizeOk rows cols && dirsB l && (decide (rows < gzR l) || decide (cols < gzC l))
end Go.Proofs.Ytjnnoabaepmcnaa
/-
  SumsOk, of the model and of the program.
-/
namespace Go.Proofs.Ytjnnoabaepmcnaa
open Go.RowKit

def badB (most x : Int) : Bool := decide (x < 0) || decide (most < x)
theorem any_no {p : Int → Bool} {r : List Int} (h : ∀ i, (hi : i < r.length) → p r[i] = false) : r.any p = false := by
  rw [Bool.eq_false_iff]; intro e
  rw [List.any_eq_true] at e
  obtain ⟨x, hx, hp⟩ := e
  obtain ⟨i, hi, rfl⟩ := List.getElem_of_mem hx
  rw [h i hi] at hp; cases hp
theorem any_yes {p : Int → Bool} {r : List Int} (i : Nat) (hi : i < r.length) (h : p r[i] = true) : r.any p = true := List.any_eq_true.2 ⟨_, List.getElem_mem hi, h⟩

set_option maxHeartbeats 400000 in
theorem bad_any (x most : Int) (g : Nat) (w : World) (hc : w.cell? ⟨g, 0, none⟩ = some (.int .i64 most)) :
    Calls Try.prog 73 #[.int .i64 x, .pointer (some ⟨g, 0, none⟩)] w fun e w' => e = .returned (.bool (badB most x)) ∧ w = w' := by
  have HB : Hid (badB most x = (decide (x < 0) || decide (most < x))) := hide rfl
  by_cases h1 : x < 0
  · go_enter Try.func73, Try.ntmps73
    go_wp2
    go_ret
    exact ⟨ret_bool (by rw [HB.out]; simp [h1]), rfl⟩
  · go_enter Try.func73, Try.ntmps73
    go_wp2
    go_ret
    exact ⟨ret_bool (by rw [HB.out]; simp; omega), rfl⟩

def IdxRes (b : Bool) (w : World) (e : Ending) (w' : World) : Prop := ∃ i : Int, e = .returned (.int .i64 i) ∧ -1 ≤ i ∧ b = decide (0 ≤ i) ∧ w = w'
set_option maxHeartbeats 1000000 in
theorem indexFunc_any (v : Value) (r : List Int) (most : Int) (q : Nat) (w : World) (hin : InRow w v r) (hq : w.cell? ⟨q, 0, none⟩ = some (.int .i64 most)) :
    Calls Try.prog 84 #[v, .func (.func 73) #[] #[.pointer (some ⟨q, 0, none⟩)]] w (IdxRes (r.any (badB most)) w) := by
  obtain ⟨a, c, rfl, hm, hp⟩ := hin
  unfold maxLen at hm
  by_cases h0 : r.length = 0
  · have hr : r = [] := List.eq_nil_of_length_eq_zero h0
    subst hr
    clear hp h0 hm
    go_enter Try.func84, Try.ntmps84
    go_wp2
    go_loop [8] (fun i => i = .int .i64 0) (fun _ => 0)
    case atStart => rfl
    case round =>
      obtain rfl := hrel
      go_wp2
      go_ret
      exact ⟨-1, rfl, by omega, rfl, rfl⟩
  · obtain ⟨g, o, rfl, hg, hc⟩ := hp.resolve_left h0
    have HC := hide hc
    obtain ⟨n, hn⟩ : ∃ n, n = r.length := ⟨_, rfl⟩
    have HN := hide hn
    rw [← hn] at hm ⊢
    clear hp hc h0 hn
    go_enter Try.func84, Try.ntmps84
    go_wp2
    go_loop [8] (fun i => ∃ k : Nat, k ≤ n ∧ i = .int .i64 k ∧ ∀ t, (h : t < r.length) → t < k → badB most r[t] = false) (fun i => n - (intOf i).toNat)
    case atStart => exact ⟨0, Nat.zero_le _, rfl, fun t _ h => absurd h (Nat.not_lt_zero _)⟩
    case round =>
      obtain ⟨k, hk, rfl, hall⟩ := hrel
      have HA := hide hall
      clear hall
      by_cases hlt : k < n
      · have hk' : k < r.length := by rw [← HN.out]; exact hlt
        have hx := HC.out k hk'
        have HNO := hide (fun h => any_yes (p := badB most) k hk' h)
        have HST : Hid (badB most r[k] = false → ∀ t, (h : t < r.length) → t < k + 1 → badB most r[t] = false) := hide fun h t h1 ht => by
          by_cases e : t = k
          · subst e; exact h
          · exact HA.out t h1 (by omega)
        obtain ⟨x, hxx⟩ : ∃ x, x = r[k] := ⟨_, rfl⟩
        rw [← hxx] at hx HNO HST
        clear hxx
        cases e : badB most x with
        | true =>
          have HE := hide e
          have HF := hide (HNO.out e)
          clear e
          go_wp2_with (go_at_call 73; refine (bad_any _ most q _ hq).mono ?_; rw [HE.out]; rintro e w9 ⟨rfl, rfl⟩)
          go_ret
          exact ⟨k, rfl, by omega, by rw [HF.out]; simp, rfl⟩
        | false =>
          have HE := hide e
          have HST := hide (HST.out e)
          clear e
          go_wp2_with (go_at_call 73; refine (bad_any _ most q _ hq).mono ?_; rw [HE.out]; rintro e w9 ⟨rfl, rfl⟩)
          go_round
          case rel => exact ⟨k + 1, by omega, by go_num, HST.out⟩
          case measure => simp [intOf]; omega
      · have HY := hide (any_no (p := badB most) fun t h => HA.out t h (by have := HN.out; omega))
        go_wp2
        go_ret
        exact ⟨-1, rfl, by omega, by rw [HY.out]; rfl, rfl⟩

set_option maxHeartbeats 400000 in
theorem containsFunc_any (v : Value) (r : List Int) (most : Int) (q : Nat) (w : World) (hin : InRow w v r) (hq : w.cell? ⟨q, 0, none⟩ = some (.int .i64 most)) :
    Calls Try.prog 72 #[v, .func (.func 73) #[] #[.pointer (some ⟨q, 0, none⟩)]] w fun e w' => e = .returned (.bool (r.any (badB most))) ∧ w = w' := by
  have HI := hide hin; have HQ := hide hq
  clear hin hq
  go_enter Try.func72, Try.ntmps72
  go_wp2_with fail
  refine (indexFunc_any v r most q _ HI.out HQ.out).mono ?_
  rintro e w1 ⟨i, rfl, hi, hb, rfl⟩
  have HB := hide hb
  clear hb
  by_cases h : 0 ≤ i
  · go_wp2
    go_ret
    exact ⟨ret_bool (by rw [HB.out]; simp [h]), rfl⟩
  · go_wp2
    go_ret
    exact ⟨ret_bool (by rw [HB.out]), rfl⟩

theorem sumsInRange_any (v : Value) (r : List Int) (most : Int) (w : World) (hin : InRow w v r) :
    Calls Try.prog 43 #[v, .int .i64 most] w fun e w' => e = .returned (.bool (!r.any (badB most))) ∧ Below w.heap.size w w' := by
  have HB := hide ((Below.refl w.heap.size w).alloc (Nat.le_refl _) (.cells #[.int .i64 most] 3))
  have HI := hide (inRow_below hin HB.out)
  have HQ := hide (show (w.alloc (.cells #[.int .i64 most] 3)).cell? ⟨w.heap.size, 0, none⟩ = some (.int .i64 most) by simp [World.cell?_alloc_new])
  clear hin
  go_enter Try.func43, Try.ntmps43
  go_wp2_with fail
  refine (containsFunc_any v r most w.heap.size _ HI.out HQ.out).mono ?_
  rintro e w1 ⟨rfl, rfl⟩
  go_wp2
  go_ret
  exact ⟨rfl, HB.out⟩

theorem sum_snoc (r : List Int) (k : Nat) (h : k < r.length) : (r.take (k + 1)).sum = (r.take k).sum + r[k] := by
  rw [List.take_succ_eq_append_getElem h, List.sum_append]; simp
def SmallL (r : List Int) : Prop := r.length ≤ 5 ∧ ∀ i, (h : i < r.length) → 0 ≤ r[i] ∧ r[i] ≤ 5
theorem sum_small {r : List Int} (h : SmallL r) : ∀ k, k ≤ r.length → 0 ≤ (r.take k).sum ∧ (r.take k).sum ≤ 5 * k := by
  intro k
  induction k with
  | zero => intro _; simp
  | succ k ih =>
    intro hk
    have := ih (by omega)
    have := h.2 k (by omega)
    rw [sum_snoc r k (by omega)]; omega
set_option maxHeartbeats 400000 in
theorem totalOf_any (v : Value) (r : List Int) (w : World) (hin : InRow w v r) (hs : SmallL r) :
    Calls Try.prog 44 #[v] w fun e w' => e = .returned (.int .i64 r.sum) ∧ w = w' := by
  obtain ⟨a, c, rfl, hm, hp⟩ := hin
  unfold maxLen at hm
  have HS := hide hs
  by_cases h0 : r.length = 0
  · have hr : r = [] := List.eq_nil_of_length_eq_zero h0
    subst hr
    clear hp h0 hm hs
    go_enter Try.func44, Try.ntmps44
    go_wp2
    go_loop [3, 8] (fun s i => s = .int .i64 0 ∧ i = .int .i64 0) (fun _ _ => 0)
    case atStart => exact ⟨rfl, rfl⟩
    case round =>
      obtain ⟨rfl, rfl⟩ := hrel
      go_wp2
      go_ret
      exact ⟨rfl, rfl⟩
  · obtain ⟨g, o, rfl, hg, hc⟩ := hp.resolve_left h0
    have HC := hide hc
    have h5 := hs.1
    obtain ⟨n, hn⟩ : ∃ n, n = r.length := ⟨_, rfl⟩
    have HN := hide hn
    rw [← hn] at hm h5 ⊢
    clear hp hc h0 hn hs
    go_enter Try.func44, Try.ntmps44
    go_wp2
    go_loop [3, 8] (fun s i => ∃ k : Nat, k ≤ n ∧ i = .int .i64 k ∧ s = .int .i64 (r.take k).sum) (fun _ i => n - (intOf i).toNat)
    case atStart => exact ⟨0, Nat.zero_le _, rfl, rfl⟩
    case round =>
      obtain ⟨k, hk, rfl, rfl⟩ := hrel
      obtain ⟨b1, b2⟩ := sum_small HS.out k (by rw [← HN.out]; exact hk)
      by_cases hlt : k < n
      · have hk' : k < r.length := by rw [← HN.out]; exact hlt
        have hx := HC.out k hk'
        have HST := hide (sum_snoc r k hk')
        obtain ⟨b3, b4⟩ := HS.out.2 k hk'
        obtain ⟨x, hxx⟩ : ∃ x, x = r[k] := ⟨_, rfl⟩
        obtain ⟨S, hSS⟩ : ∃ S, S = (r.take k).sum := ⟨_, rfl⟩
        rw [← hxx] at hx HST b3 b4
        rw [← hSS] at HST b1 b2 ⊢
        clear hxx hSS
        go_wp2
        go_round
        case rel => exact ⟨k + 1, by omega, by go_num, by rw [HST.out]⟩
        case measure => simp [intOf]; omega
      · have HE : Hid ((r.take k).sum = r.sum) := hide (by rw [List.take_of_length_le (by have := HN.out; omega)])
        rw [HE.out]
        clear b1 b2
        go_wp2
        go_ret
        exact ⟨rfl, rfl⟩

/-- What SumsOk returns. -/
def sumsOk (r c : List Int) : Bool := sizeOk r.length c.length && !r.any (badB c.length) && !c.any (badB r.length) && r.sum == c.sum
theorem small_of {r : List Int} {m : Int} (hl : r.length ≤ 5) (hm : m ≤ 5) (h : r.any (badB m) = false) : SmallL r := by
  refine ⟨hl, fun i hi => ?_⟩
  rw [List.any_eq_false] at h
  have := h _ (List.getElem_mem hi)
  simp only [badB, Bool.or_eq_true, decide_eq_true_eq, not_or] at this
  omega
set_option maxHeartbeats 1000000 in
theorem implSumsOk_any (va vb : Value) (r c : List Int) (w : World) (ha : InRow w va r) (hb : InRow w vb c) :
    Calls Try.prog 17 #[va, vb] w fun e w' => e = .returned (.bool (sumsOk r c)) ∧ Below w.heap.size w w' := by
  obtain ⟨a, ca, rfl, hma, hpa⟩ := ha
  obtain ⟨b, cb, rfl, hmb, hpb⟩ := hb
  have HA : Hid (InRow w (.slice a r.length ca) r) := hide ⟨a, ca, rfl, hma, hpa⟩
  have HB : Hid (InRow w (.slice b c.length cb) c) := hide ⟨b, cb, rfl, hmb, hpb⟩
  clear hpa hpb
  unfold maxLen at hma hmb
  obtain ⟨R, hR⟩ : ∃ R, R = r.length := ⟨_, rfl⟩
  obtain ⟨C, hC⟩ : ∃ C, C = c.length := ⟨_, rfl⟩
  have HRR := hide hR; have HCC := hide hC
  have HS : Hid (sumsOk r c = (decide ((1 : Int) ≤ R ∧ (R : Int) ≤ 5) && decide ((1 : Int) ≤ C ∧ (C : Int) ≤ 5) && !r.any (badB C) && !c.any (badB R) && r.sum == c.sum)) := hide (by rw [sumsOk, sizeOk, hR, hC])
  rw [← hR] at HA hma ⊢
  rw [← hC] at HB hmb ⊢
  rw [HS.out]
  by_cases h1 : 1 ≤ R ∧ R ≤ 5
  · have H1 : Hid (decide ((1 : Int) ≤ R ∧ (R : Int) ≤ 5) = true) := hide (decide_eq_true (by omega))
    rw [H1.out]
    by_cases h2 : 1 ≤ C ∧ C ≤ 5
    · have H2 : Hid (decide ((1 : Int) ≤ C ∧ (C : Int) ≤ 5) = true) := hide (decide_eq_true (by omega))
      rw [H2.out]
      cases h3 : r.any (badB C) with
      | true =>
        have H3 := hide h3
        clear hR hC h3
        go_enter Try.func17, Try.ntmps17
        go_wp2_with (first | (with_reducible refine (sideOk_any (R : Int) _).mono ?_; rw [H1.out]; rintro e w' ⟨rfl, rfl⟩) | (with_reducible refine (sideOk_any (C : Int) _).mono ?_; rw [H2.out]; rintro e w' ⟨rfl, rfl⟩) | ((with_reducible refine (sumsInRange_any _ r (C : Int) _ HA.out).mono ?_); rw [H3.out]; rintro e w1 ⟨rfl, b1⟩; have B1 := hide b1; clear b1))
        go_ret
        exact ⟨rfl, B1.out⟩
      | false =>
        have HSA := hide (small_of (m := C) (by rw [← hR]; exact h1.2) (by omega) h3)
        have H3 := hide h3
        cases h4 : c.any (badB R) with
        | true =>
          have H4 := hide h4
          clear hR hC h3 h4
          go_enter Try.func17, Try.ntmps17
          go_wp2_with (first | (with_reducible refine (sideOk_any (R : Int) _).mono ?_; rw [H1.out]; rintro e w' ⟨rfl, rfl⟩) | (with_reducible refine (sideOk_any (C : Int) _).mono ?_; rw [H2.out]; rintro e w' ⟨rfl, rfl⟩) | ((with_reducible refine (sumsInRange_any _ r (C : Int) _ HA.out).mono ?_); rw [H3.out]; rintro e w1 ⟨rfl, b1⟩; have B1 := hide b1; clear b1) | ((with_reducible refine (sumsInRange_any _ c (R : Int) _ (inRow_below HB.out B1.out)).mono ?_); rw [H4.out]; rintro e w2 ⟨rfl, b2⟩; have B2 := hide (B1.out.trans (b2.mono B1.out.size)); clear b2))
          go_ret
          exact ⟨rfl, B2.out⟩
        | false =>
          have HSB := hide (small_of (m := R) (by rw [← hC]; exact h2.2) (by omega) h4)
          have H4 := hide h4
          clear hR hC h3 h4
          obtain ⟨p1, p2⟩ := sum_small HSA.out r.length (Nat.le_refl _)
          obtain ⟨q1, q2⟩ := sum_small HSB.out c.length (Nat.le_refl _)
          rw [List.take_length] at p1 p2 q1 q2
          have TA := fun w hw => totalOf_any (.slice a R ca) r w hw HSA.out
          have TB := fun w hw => totalOf_any (.slice b C cb) c w hw HSB.out
          obtain ⟨X, hX⟩ : ∃ X, X = r.sum := ⟨_, rfl⟩
          obtain ⟨Y, hY⟩ : ∃ Y, Y = c.sum := ⟨_, rfl⟩
          rw [← hX] at TA p1 p2 ⊢
          rw [← hY] at TB q1 q2 ⊢
          have TA := hide TA; have TB := hide TB
          clear hX hY
          go_enter Try.func17, Try.ntmps17
          go_wp2_with (first | (with_reducible refine (sideOk_any (R : Int) _).mono ?_; rw [H1.out]; rintro e w' ⟨rfl, rfl⟩) | (with_reducible refine (sideOk_any (C : Int) _).mono ?_; rw [H2.out]; rintro e w' ⟨rfl, rfl⟩) | ((with_reducible refine (sumsInRange_any _ r (C : Int) _ HA.out).mono ?_); rw [H3.out]; rintro e w1 ⟨rfl, b1⟩; have B1 := hide b1; clear b1) | ((with_reducible refine (sumsInRange_any _ c (R : Int) _ (inRow_below HB.out B1.out)).mono ?_); rw [H4.out]; rintro e w2 ⟨rfl, b2⟩; have B2 := hide (B1.out.trans (b2.mono B1.out.size)); clear b2) | ((with_reducible refine (TA.out _ (inRow_below HA.out B2.out)).mono ?_); rintro e w' ⟨rfl, rfl⟩) | ((with_reducible refine (TB.out _ (inRow_below HB.out B2.out)).mono ?_); rintro e w' ⟨rfl, rfl⟩))
          go_ret
          exact ⟨ret_bool (by simp), B2.out⟩
    · have H2 : Hid (decide ((1 : Int) ≤ C ∧ (C : Int) ≤ 5) = false) := hide (decide_eq_false (by omega))
      rw [H2.out]
      clear hR hC h1 h2
      go_enter Try.func17, Try.ntmps17
      go_wp2_with (first | (with_reducible refine (sideOk_any (R : Int) _).mono ?_; rw [H1.out]; rintro e w' ⟨rfl, rfl⟩) | (with_reducible refine (sideOk_any (C : Int) _).mono ?_; rw [H2.out]; rintro e w' ⟨rfl, rfl⟩))
      go_ret
      exact ⟨rfl, Below.refl _ _⟩
  · have H1 : Hid (decide ((1 : Int) ≤ R ∧ (R : Int) ≤ 5) = false) := hide (decide_eq_false (by omega))
    rw [H1.out]
    clear hR hC h1
    go_enter Try.func17, Try.ntmps17
    go_wp2_with (first | (with_reducible refine (sideOk_any (R : Int) _).mono ?_; rw [H1.out]; rintro e w' ⟨rfl, rfl⟩))
    go_ret
    exact ⟨rfl, Below.refl _ _⟩

theorem bad_in (m x : Int) : decide (0 ≤ x ∧ x ≤ m) = !badB m x := by
  unfold badB
  by_cases h : 0 ≤ x ∧ x ≤ m
  · rw [decide_eq_true h, decide_eq_false (by omega), decide_eq_false (by omega)]; rfl
  · rw [decide_eq_false h]
    by_cases h1 : x < 0
    · rw [decide_eq_true h1]; rfl
    · rw [decide_eq_false h1, decide_eq_true (by omega : m < x)]; rfl
end Go.Proofs.Ytjnnoabaepmcnaa
/-
  The exact law on SumsOk, walked.
-/
namespace Go.Proofs.Ytjnnoabaepmcnaa
open Go.RowKit
set_option linter.unusedVariables false

/-- What 'open_ints' hands over. -/
theorem inRow_of {w : World} {x : Addr} {l c : Nat} {zs : List Int} (hl : l ≤ c) (hm : c ≤ maxLen) (hz : zs.length = c) (hcell : ∀ i, i < zs.length → w.cell? (x.add i) = some (.int .i64 (zs.getD i 0))) : InRow w (.slice (some x) l c) (zs.take l) := by
  have hlen : (zs.take l).length = l := by rw [List.length_take]; omega
  refine ⟨some x, c, by rw [hlen], by omega, ?_⟩
  by_cases h0 : l = 0
  · exact .inl (by omega)
  · refine .inr ?_
    obtain ⟨g, o, spot⟩ := x
    have hc := hcell 0 (by omega)
    have hspot : spot = none := by simpa [Addr.add] using World.cell?_spot hc
    subst hspot
    refine ⟨g, o, rfl, by have := World.block_lt_of_cell? w _ hc; simpa [Addr.add] using this, fun i hi => ?_⟩
    have := hcell i (by omega)
    rw [addr_add] at this
    rw [this, List.getElem_take, List.getD_eq_getElem?_getD, List.getElem?_eq_getElem (by omega)]; rfl

end Go.Proofs.Ytjnnoabaepmcnaa
/-
  total of the laws, at more and greater numbers.
-/
namespace Go.Proofs.Ytjnnoabaepmcnaa
open Go.RowKit

def SmallT (r : List Int) : Prop := r.length ≤ 100 ∧ ∀ i, (h : i < r.length) → 0 ≤ r[i] ∧ r[i] ≤ 100
theorem sum_smallT {r : List Int} (h : SmallT r) : ∀ k, k ≤ r.length → 0 ≤ (r.take k).sum ∧ (r.take k).sum ≤ 100 * k := by
  intro k
  induction k with
  | zero => intro _; simp
  | succ k ih =>
    intro hk
    have hk' : k < r.length := by omega
    have h1 := ih (by omega)
    have h2 := h.2 k hk'
    rw [List.take_succ_eq_append_getElem hk', List.sum_append]
    simp only [List.sum_cons, List.sum_nil]
    omega

set_option maxHeartbeats 400000 in
theorem lawTotalT_any (v : Value) (r : List Int) (w : World) (hin : InRow w v r) (hs : SmallT r) :
    Calls Try.prog 12 #[v] w fun e w' => e = .returned (.int .i64 r.sum) ∧ w = w' := by
  obtain ⟨a, c, rfl, hm, hp⟩ := hin
  unfold maxLen at hm
  have HS := hide hs
  by_cases h0 : r.length = 0
  · have hr : r = [] := List.eq_nil_of_length_eq_zero h0
    subst hr
    clear hp h0 hm hs
    go_enter Try.func12, Try.ntmps12
    go_wp2
    go_loop [3, 8] (fun s i => s = .int .i64 0 ∧ i = .int .i64 0) (fun _ _ => 0)
    case atStart => exact ⟨rfl, rfl⟩
    case round =>
      obtain ⟨rfl, rfl⟩ := hrel
      go_wp2
      go_ret
      exact ⟨rfl, rfl⟩
  · obtain ⟨g, o, rfl, hg, hc⟩ := hp.resolve_left h0
    have HC := hide hc
    have h5 := hs.1
    obtain ⟨n, hn⟩ : ∃ n, n = r.length := ⟨_, rfl⟩
    have HN := hide hn
    rw [← hn] at hm h5 ⊢
    clear hp hc h0 hn hs
    go_enter Try.func12, Try.ntmps12
    go_wp2
    go_loop [3, 8] (fun s i => ∃ k : Nat, k ≤ n ∧ i = .int .i64 k ∧ s = .int .i64 (r.take k).sum) (fun _ i => n - (intOf i).toNat)
    case atStart => exact ⟨0, Nat.zero_le _, rfl, rfl⟩
    case round =>
      obtain ⟨k, hk, rfl, rfl⟩ := hrel
      obtain ⟨b1, b2⟩ := sum_smallT HS.out k (by rw [← HN.out]; exact hk)
      by_cases hlt : k < n
      · have hk' : k < r.length := by rw [← HN.out]; exact hlt
        have hx := HC.out k hk'
        have HST := hide (sum_snoc r k hk')
        obtain ⟨b3, b4⟩ := HS.out.2 k hk'
        obtain ⟨x, hxx⟩ : ∃ x, x = r[k] := ⟨_, rfl⟩
        obtain ⟨S, hSS⟩ : ∃ S, S = (r.take k).sum := ⟨_, rfl⟩
        rw [← hxx] at hx HST b3 b4
        rw [← hSS] at HST b1 b2 ⊢
        clear hxx hSS
        go_wp2
        go_round
        case rel => exact ⟨k + 1, by omega, by go_num, by rw [HST.out]⟩
        case measure => simp [intOf]; omega
      · have HE : Hid ((r.take k).sum = r.sum) := hide (by rw [List.take_of_length_le (by have := HN.out; omega)])
        rw [HE.out]
        clear b1 b2
        go_wp2
        go_ret
        exact ⟨rfl, rfl⟩

end Go.Proofs.Ytjnnoabaepmcnaa
/-
  RowSums of the model.
-/
namespace Go.Proofs.Ytjnnoabaepmcnaa
open Go.RowKit

end Go.Proofs.Ytjnnoabaepmcnaa
/-
  RowSums of both.
-/
namespace Go.Proofs.Ytjnnoabaepmcnaa
open Go.RowKit

theorem alongRows_any (w : World) : Calls Try.prog 41 #[] w fun e w' => e = .returned (.agg #[.int .i64 1, .int .i64 0]) ∧ Below w.heap.size w w' := by
  go_enter Try.func41, Try.ntmps41
  go_wp2
  exact bodyPost_ret (v := .agg #[.int .i64 1, .int .i64 0]) (by simp [results, Try.results41, go_sem]) rfl ⟨rfl, (Below.refl _ _).alloc (Nat.le_refl _) _⟩
theorem implRowSums_no (v : Value) (m : List (List Int)) (w : World) (hin : InMat w v m) (h : okB m = false) :
    Calls Try.prog 15 #[v] w (IntsRes [] w) := by
  have HI := hide hin; have H := hide h
  clear hin h
  go_enter Try.func15, Try.ntmps15
  go_wp2_with fail
  refine (alongRows_any _).mono ?_
  rintro e w1 ⟨rfl, hb⟩
  have HB := hide hb
  clear hb
  go_wp2_with fail
  refine (implLineSums_img v m 1 0 _ (inMat_below HI.out HB.out) H.out).mono ?_
  rintro e w2 ⟨u, rfl, ho, hb⟩
  have HO := hide (own_base ho HB.out.size); have HB2 := hide (HB.out.trans (hb.mono HB.out.size))
  clear ho hb
  go_wp2
  go_ret
  exact ⟨_, rfl, HO.out, HB2.out⟩
theorem implRowSums_yes (v : Value) (R C : Nat) (f : Nat → Nat → Int) (w : World) (hin : InMat w v (mkM R C f)) (hI : Img R C f) :
    Calls Try.prog 15 #[v] w (IntsRes (rowsL R C f) w) := by
  have HI := hide hin; have H := hide hI
  rw [← lineRow_rows]
  clear hin hI
  go_enter Try.func15, Try.ntmps15
  go_wp2_with fail
  refine (alongRows_any _).mono ?_
  rintro e w1 ⟨rfl, hb⟩
  have HB := hide hb
  clear hb
  go_wp2_with fail
  refine (implLineSums_yes v R C R f 1 0 _ (inMat_below HI.out HB.out) H.out (by decide) (countL_rows R C).symm (by have := H.out.r2; omega)).mono ?_
  rintro e w2 ⟨u, rfl, ho, hb⟩
  have HO := hide (own_base ho HB.out.size); have HB2 := hide (HB.out.trans (hb.mono HB.out.size))
  clear ho hb
  go_wp2
  go_ret
  exact ⟨_, rfl, HO.out, HB2.out⟩

end Go.Proofs.Ytjnnoabaepmcnaa
/-
  whiteImage.
-/
namespace Go.Proofs.Ytjnnoabaepmcnaa
open Go.RowKit

def whiteF (r c : Int) (i : Nat) : Int := if r ≤ (i / 5 : Nat) ∨ c ≤ (i % 5 : Nat) then -1 else 0
def upF (F : Nat → Int) (k : Nat) (i : Nat) : Int := if i < k then F i else 0
theorem Try.zeroImg (w : World) : (zeroValue 56).run Try.prog w = .ok (.agg (vec 25 fun _ => 0)) w := Try.zeroValue56 w
theorem Try.zeroRow (w : World) : (zeroValue 54).run Try.prog w = .ok (.agg (vec 5 fun _ => 0)) w := Try.zeroValue54 w
theorem Try.sizeImg : (Try.prog.info? 56).map (·.size) = some 25 := by kernel_rfl
theorem Try.sizeRow : (Try.prog.info? 54).map (·.size) = some 5 := by kernel_rfl

theorem upF_zero (F : Nat → Int) : upF F 0 = fun _ => 0 := by funext i; simp [upF]
theorem upF_set (F : Nat → Int) (k : Nat) (v : Int) (h : F k = v) : (fun j => if j = k then v else upF F k j) = upF F (k + 1) := by
  funext j
  simp only [upF]
  by_cases e : j = k
  · subst e; simp [h]
  · rw [if_neg e]
    by_cases hl : j < k
    · rw [if_pos hl, if_pos (by omega)]
    · rw [if_neg hl, if_neg (by omega)]
theorem upF_skip (F : Nat → Int) (k : Nat) (h : F k = 0) : upF F k = upF F (k + 1) := by
  funext j
  simp only [upF]
  by_cases hl : j < k
  · rw [if_pos hl, if_pos (by omega)]
  · by_cases e : j = k
    · subst e; simp [h]
    · rw [if_neg hl, if_neg (by omega)]
theorem upF_all (F : Nat → Int) (n k : Nat) (h : n ≤ k) : ∀ i, i < n → upF F k i = F i := fun i hi => by rw [upF, if_pos (by omega)]
theorem whiteF_at (r c : Int) (y x : Nat) (h : x < 5) : whiteF r c (5 * y + x) = if r ≤ (y : Nat) ∨ c ≤ (x : Nat) then -1 else 0 := by
  rw [whiteF, show (5 * y + x) / 5 = y by omega, show (5 * y + x) % 5 = x by omega]

set_option maxHeartbeats 400000 in
theorem whiteImage_any (r c : Int) (w : World) :
    Calls Try.prog 61 #[.int .i64 r, .int .i64 c] w fun e w' => e = .returned (.agg (vec 25 (whiteF r c))) ∧ Below w.heap.size w w' := by
  go_enter Try.func61, Try.ntmps61
  go_wp2_with (first | (with_reducible refine wpList_allocVec 25 4 rfl rfl rfl Try.zeroImg ?_; intro w1 h1 b1 s1) | (with_reducible refine wpList_allocVec 25 5 rfl rfl rfl Try.zeroImg ?_; intro w2 h2 b2 s2))
  rw [s1] at h2
  have b1' := b1.trans (b2.mono (by omega))
  have h1 := blk_below h1 b2
  have s2 : w2.heap.size = w.heap.size + 2 := by omega
  clear b1 s1 b2
  go_loopw [8] (fun i w' => ∃ y : Nat, y ≤ 5 ∧ i = .int .i64 y ∧ Blk w' (w.heap.size + 1) 56 25 (upF (whiteF r c) (5 * y)) ∧ Blk w' w.heap.size 56 25 (fun _ => 0) ∧ Below w.heap.size w w') (fun i _ => 5 - (intOf i).toNat)
  case atStart => exact ⟨0, by omega, rfl, by rw [Nat.mul_zero, upF_zero]; exact h2, h1, b1'⟩
  case round =>
    clear h1 h2 b1' s2
    obtain ⟨y, hy, rfl, hp, hr, hb⟩ := hrel
    by_cases hlt : y < 5
    · have hyI : (y : Int) < 5 := by omega
      go_wp2
      go_loopw [11] (fun i w' => ∃ x : Nat, x ≤ 5 ∧ i = .int .i64 x ∧ Blk w' (w.heap.size + 1) 56 25 (upF (whiteF r c) (5 * y + x)) ∧ Blk w' w.heap.size 56 25 (fun _ => 0) ∧ Below w.heap.size w w') (fun i _ => 5 - (intOf i).toNat)
      case atStart => exact ⟨0, by omega, rfl, hp, hr, hb⟩
      case round =>
        clear hp hr hb
        obtain ⟨x, hx, rfl, hp, hr, hb⟩ := hrel
        by_cases hlx : x < 5
        · by_cases hc : r ≤ (y : Int) ∨ c ≤ (x : Int)
          · have HS := hide (upF_set (whiteF r c) (5 * y + x) (-1) (by rw [whiteF_at r c y x hlx, if_pos hc]))
            have hcl := blk_cell hp (5 * y + x) (by omega)
            have hfr := blk_frozen hp (5 * y + x)
            have HA : Hid (0 + y * 5 + x * 1 = 5 * y + x) := hide (by omega)
            by_cases h1 : r ≤ (y : Int)
            all_goals
              try have h2 : c ≤ (x : Int) := by omega
              clear hc
              go_wp2_with (first | (with_reducible refine wpList_indexAt y 24 rfl rfl _ _ rfl rfl rfl Try.underlying56 Try.sizeOf54 hlt ?_) | (with_reducible refine wpList_indexAt x 25 rfl rfl _ _ rfl rfl rfl Try.underlying54 Try.sizeOf3 hlx ?_; rw [HA.out]))
              go_roundw
              case rel => exact ⟨x + 1, by omega, by go_num, by have := blk_set hp (5 * y + x) (-1); rw [HS.out] at this; exact this, blk_other hr _ _ (by simp), hb.setCell (by simp) _⟩
              case measure => simp [intOf]; omega
          · have h1 : (y : Int) < r := by omega
            have h2 : (x : Int) < c := by omega
            have HS := hide (upF_skip (whiteF r c) (5 * y + x) (by rw [whiteF_at r c y x hlx, if_neg hc]))
            clear hc
            go_wp2
            go_roundw
            case rel => exact ⟨x + 1, by omega, by go_num, by rw [HS.out] at hp; exact hp, hr, hb⟩
            case measure => simp [intOf]; omega
        · obtain rfl : x = 5 := by omega
          go_wp2
          go_roundw
          case rel => exact ⟨y + 1, by omega, by go_num, by rw [show 5 * (y + 1) = 5 * y + 5 by omega]; exact hp, hr, hb⟩
          case measure => simp [intOf]; omega
    · obtain rfl : y = 5 := by omega
      have hp := blk_congr hp (upF_all (whiteF r c) 25 (5 * 5) (by omega))
      go_wp2_with (first | (with_reducible refine wpList_loadVec hp 28 rfl rfl _ rfl rfl Try.underlying56 Try.sizeImg ?_) | (with_reducible refine wpList_storeVec hr rfl (.tmp 4) (.tmp 28) rfl rfl rfl Try.sizeImg ?_; intro w4 h4 g4 s4))
      refine bodyPost_ret (results_cell_row rfl _ _ w.heap.size 56 _ (0, 0) _ rfl h4 Try.underlying56 rfl (by rw [vec_size]; exact Try.sizeImg)) rfl ⟨rfl, ?_⟩
      exact hb.trans (grown_below g4 (fun k hk => by cases hk; exact Nat.le_refl _) hb.size)
end Go.Proofs.Ytjnnoabaepmcnaa
/-
  The program's images: imageOf, size, lists.
-/
namespace Go.Proofs.Ytjnnoabaepmcnaa
open Go.RowKit

theorem results_vec_tmp {P : Program} {fn : Func} {p t : Tmp} {ty : TypeId} (h : fn.results = #[.cell p ty, .tmp t]) (tmps : Array Value) (w : World) (g n m : Nat) (T e : TypeId) (F : Nat → Int)
    (hp : tmps.getD p undef = .pointer (some ⟨g, 0, none⟩)) (hb : Blk w g T n F) (hu : P.underlying ty = some (.array m e)) (hi : (P.info? ty).map (·.size) = some n) :
    (results fn tmps).run P w = .ok (.tuple #[.agg (vec n F), tmps.getD t undef]) w := by
  have hp' : tmps[p]?.getD undef = .pointer (some ⟨g, 0, none⟩) := by simpa using hp
  simp [results, h, hp', asAddr, run_loadVar_row w g T ty (vec n F) (0, 0) _ hb hu rfl (by rw [hi, vec_size])]
theorem results_vec {P : Program} {fn : Func} {p : Tmp} {ty : TypeId} (h : fn.results = #[.cell p ty]) (tmps : Array Value) (w : World) (g n m : Nat) (T e : TypeId) (F : Nat → Int)
    (hp : tmps.getD p undef = .pointer (some ⟨g, 0, none⟩)) (hb : Blk w g T n F) (hu : P.underlying ty = some (.array m e)) (hi : (P.info? ty).map (·.size) = some n) :
    (results fn tmps).run P w = .ok (.agg (vec n F)) w :=
  results_cell_row h tmps w g T (vec n F) (0, 0) _ hp hb hu rfl (by rw [hi, vec_size])

/-- The rows so far: of row y the first x cells, too. -/
def upRow (R C : Nat) (f : Nat → Nat → Int) (y : Nat) (i : Nat) : Int := if i / 5 < y then imgF R C f i else whiteF R C i
theorem upRow_zero (R C : Nat) (f : Nat → Nat → Int) : upRow R C f 0 = whiteF R C := by funext i; simp [upRow]
theorem upRow_all (R C : Nat) (f : Nat → Nat → Int) : ∀ i, i < 25 → upRow R C f R i = imgF R C f i := by
  intro i hi
  unfold upRow
  split
  · rfl
  · rename_i h; rw [whiteF, if_pos (by left; omega), imgF, if_neg (by omega)]
theorem upRow_step (R C : Nat) (f : Nat → Nat → Int) (y : Nat) (hy : y < R) (hR : R ≤ 5) (hC : C ≤ 5) : splice (vecL 25 (upRow R C f y)) (y * 5) (ints (rowF C (f y))) = vecL 25 (upRow R C f (y + 1)) := by
  have hl : (splice (vecL 25 (upRow R C f y)) (y * 5) (ints (rowF C (f y)))).length = 25 := by
    rw [length_splice _ _ _ (by rw [vecL_len, ints_len, rowF_len]; omega), vecL_len]
  apply List.ext_getElem
  · rw [hl, vecL_len]
  · intro i h1 h2
    have hi : i < 25 := by rw [hl] at h1; exact h1
    simp only [splice, vecL, ints, rowF]
    simp only [List.getElem_append, List.length_take, List.length_map, List.length_range, List.getElem_take, List.getElem_map, List.getElem_range, List.getElem_drop]
    by_cases a : i < y * 5
    · have : i < min (y * 5) 25 := by omega
      simp only [this, dif_pos]
      rw [upRow, upRow, if_pos (by omega), if_pos (by omega)]
    · have h0 : ¬ i < min (y * 5) 25 := by omega
      simp only [h0, dif_neg, not_false_eq_true]
      by_cases b : i < y * 5 + C
      · have h3 : i - min (y * 5) 25 < C := by omega
        simp only [h3, dif_pos]
        rw [upRow, if_pos (by omega), imgF, if_pos (by omega), show i - min (y * 5) 25 = i % 5 by omega, show y = i / 5 by omega]
      · have h3 : ¬ i - min (y * 5) 25 < C := by omega
        simp only [h3, dif_neg, not_false_eq_true]
        rw [show y * 5 + C + (i - min (y * 5) 25 - C) = i by omega]
        by_cases d : i / 5 < y + 1
        · rw [upRow, if_neg (by omega), upRow, if_pos d, whiteF, if_pos (by right; omega), imgF, if_neg (by omega)]
        · rw [upRow, if_neg (by omega), upRow, if_neg d]

theorem Try.builtImg : Try.prog.built 56 [] = some (vec 25 fun _ => 0) := by kernel_rfl
set_option maxHeartbeats 400000 in
theorem imageOf_no (v : Value) (m : List (List Int)) (w : World) (hin : InMat w v m) (h : okB m = false) :
    Calls Try.prog 30 #[v] w fun e w' => e = .returned (.tuple #[.agg (vec 25 fun _ => 0), .bool false]) ∧ Below w.heap.size w w' := by
  have HI := hide hin; have H := hide h
  clear hin h
  go_enter Try.func30, Try.ntmps30
  go_wp2_with (with_reducible refine wpList_allocVec 25 2 rfl rfl rfl Try.zeroImg ?_; intro w1 h1 b1 s1)
  have H1 := hide h1; have B1 := hide b1
  clear h1 b1
  go_wp2_with fail
  refine (implImageOk_any v m _ (inMat_below HI.out B1.out)).mono ?_
  rw [H.out]
  rintro e w2 ⟨rfl, rfl⟩
  go_wp2_with (first | (with_reducible refine wpList_buildVec 10 rfl rfl rfl Try.builtImg ?_) | (with_reducible refine wpList_storeVec H1.out rfl (.tmp 2) (.tmp 10) rfl rfl rfl Try.sizeImg ?_; intro w4 h4 g4 s4))
  refine bodyPost_ret (results_vec_tmp rfl _ _ w.heap.size 25 _ 56 _ _ rfl h4 Try.underlying56 Try.sizeImg) rfl ⟨rfl, ?_⟩
  exact B1.out.trans (grown_below g4 (fun k hk => by cases hk; exact Nat.le_refl _) B1.out.size)

set_option maxRecDepth 100000 in
set_option maxHeartbeats 1000000 in
theorem imageOf_yes (v : Value) (R C : Nat) (f : Nat → Nat → Int) (w : World) (hin : InMat w v (mkM R C f)) (hI : Img R C f) :
    Calls Try.prog 30 #[v] w fun e w' => e = .returned (.tuple #[.agg (vec 25 (imgF R C f)), .bool true]) ∧ Below w.heap.size w w' := by
  have HI := hide hin
  have hR := hI.r2; have hR1 := hI.r1; have hC := hI.c2; have hC1 := hI.c1
  have HOK := hide (img_ok hI)
  obtain ⟨g, o, c, rfl, hg, hcell⟩ := inMat_img hin (by omega) (by omega)
  have HC := hide hcell
  clear hin hcell hI
  go_enter Try.func30, Try.ntmps30
  go_wp2_with (with_reducible refine wpList_allocVec 25 2 rfl rfl rfl Try.zeroImg ?_; intro w1 h1 b1 s1)
  have H1 := hide h1; have B1 := hide b1
  clear h1 b1
  go_wp2_with fail
  refine (implImageOk_any _ _ _ (inMat_below HI.out B1.out)).mono ?_
  rw [HOK.out]
  rintro e w2 ⟨rfl, rfl⟩
  obtain ⟨g0, o0, c0, hx0, -⟩ := HC.out 0 (by omega)
  have hx0 := below_cell B1.out hg hx0
  rw [Nat.add_zero] at hx0
  go_wp2_with (first | (with_reducible refine (whiteImage_any (R : Int) (C : Int) _).mono ?_; rintro e w3 ⟨rfl, b3⟩) | (with_reducible refine wpList_allocVec 25 4 rfl rfl rfl Try.zeroImg ?_; intro w5 h5 b5 s5) | (with_reducible refine wpList_storeVec h5 rfl (.tmp 4) (.tmp 17) rfl rfl rfl Try.sizeImg ?_; intro w6 h6 g6 s6))
  have hlt3 : w.heap.size < w3.heap.size := by have := b3.size; omega
  have B3 := hide (B1.out.trans (b3.mono B1.out.size))
  have B6 := hide (B3.out.trans ((b5.mono B3.out.size).trans (grown_below g6 (fun k hk => by cases hk; omega) (by omega))))
  have H1 := hide (blk_grown (blk_below (blk_below H1.out b3) b5) g6 (by simp; omega))
  have h6' := hide h6
  have hs6 : w3.heap.size < w6.heap.size := blk_lt h6
  clear b3 b5 h5 s5 g6 s6 h6 hx0
  obtain ⟨p, hp⟩ : ∃ p, p = w3.heap.size := ⟨_, rfl⟩
  rw [← hp] at h6' hlt3 hs6 ⊢
  clear hp
  go_loopw [20] (fun i w' => ∃ y : Nat, y ≤ R ∧ i = .int .i64 y ∧ Blk w' p 56 25 (upRow R C f y) ∧ Blk w' w.heap.size 56 25 (fun _ => 0) ∧ Below w.heap.size w w') (fun i _ => R - (intOf i).toNat)
  case atStart => exact ⟨0, by omega, rfl, by rw [upRow_zero]; exact h6'.out, H1.out, B6.out⟩
  case round =>
    clear h6' H1 B6 B3 B1
    obtain ⟨y, hy, rfl, hp, hr, hb⟩ := hrel
    have HP := hide hp; have HR := hide hr; have HB := hide hb
    clear hp hr hb
    by_cases hlt : y < R
    · obtain ⟨g', o', c', hx, hg', hcell⟩ := HC.out y hlt
      have hx := below_cell HB.out hg hx
      have HCC := hide hcell
      have HP2 : Hid (wr.heap[p]? = some (.cells (vecL 25 (upRow R C f y)).toArray 56 (0, 0))) := HP.out
      have HST := hide (upRow_step R C f y hlt hR hC)
      have hyI : (y : Int) < 5 := by omega
      clear hcell
      obtain ⟨cs, hcs⟩ : ∃ cs, cs = ints (rowF C (f y)) := ⟨_, rfl⟩
      have HCS := hide hcs
      have hcl : cs.length = C := by rw [hcs, ints_len, rowF_len]
      have HCL := hide hcl
      clear hcs hcl
      have K1 : Hid (cs.length = Nat.min C 5) := hide (by rw [HCL.out]; show C = min C 5; omega)
      have K2 : Hid (0 < cs.length → some (⟨p, y * 5, none⟩ : Addr) = some ⟨p, y * 5, none⟩ ∧ ∃ ad, some (⟨g', o', none⟩ : Addr) = some ad ∧ ∀ j v, cs[j]? = some v → wr.cell? (ad.add j) = some v) := hide (by
        intro _
        refine ⟨rfl, _, rfl, fun j v hv => ?_⟩
        have hj : j < C := by have := (List.getElem?_eq_some_iff.1 hv).1; have := HCL.out; omega
        rw [HCS.out, ints_at _ j (by rw [rowF_len]; exact hj), rowF_at, Option.some.injEq] at hv
        subst hv
        rw [addr_add]
        exact below_cell HB.out hg' (HCC.out j hj))
      have K3 : Hid (y * 5 + cs.length ≤ (vecL 25 (upRow R C f y)).length) := hide (by rw [HCL.out, vecL_len]; omega)
      have K4 : Hid (∀ v ∈ cs, v.oneCell' = true) := hide (by
        intro v hv
        rw [HCS.out] at hv
        simp only [ints, List.mem_map] at hv
        obtain ⟨z, -, rfl⟩ := hv; rfl)
      go_wp2_with (first | (with_reducible refine wpList_indexAt y 26 rfl rfl _ _ rfl rfl rfl Try.underlying56 Try.sizeOf54 (by omega) ?_) | (refine wpList_copy_splice (o := ⟨some 29, _, _, _, _, _⟩) rfl (.tmp 27) (.tmp 28) 30 30 rfl 3 Try.underlying30 (by kernel_rfl) _ _ _ _ _ _ rfl rfl p (y * 5) (vecL 25 (upRow R C f y)) 56 HP2.out cs K1.out K2.out K3.out K4.out (w.heap.size + 1) wr (Below.refl _ _) hlt3 ?_; intro w7 h7 b7))
      go_roundw
      case rel =>
        refine ⟨y + 1, by omega, by go_num, ?_, ?_, HB.out.trans (b7.mono (by omega))⟩
        · have := h7.out
          rw [HCS.out, HST.out] at this; exact this
        · unfold Blk; rw [b7.block _ (Nat.lt_succ_self _)]; exact HR.out
      case measure => simp [intOf]; omega
    · obtain rfl : y = R := by omega
      have HP := hide (blk_congr HP.out (upRow_all y C f))
      go_wp2_with (first | (with_reducible refine wpList_loadVec HP.out 31 rfl rfl _ rfl rfl Try.underlying56 Try.sizeImg ?_) | (with_reducible refine wpList_storeVec HR.out rfl (.tmp 2) (.tmp 31) rfl rfl rfl Try.sizeImg ?_; intro w8 h8 g8 s8))
      refine bodyPost_ret (results_vec_tmp rfl _ _ w.heap.size 25 _ 56 _ _ rfl h8 Try.underlying56 Try.sizeImg) rfl ⟨rfl, ?_⟩
      exact HB.out.trans (grown_below g8 (fun k hk => by cases hk; exact Nat.le_refl _) HB.out.size)
end Go.Proofs.Ytjnnoabaepmcnaa
/-
  l02Empty of the model.
-/
namespace Go.Proofs.Ytjnnoabaepmcnaa
open Go.RowKit

set_option maxHeartbeats 1000000 in
theorem l02Empty_any (R C : Nat) (w : World) (hR : R ≤ 5) (hC : C ≤ 5) :
    Calls Try.prog 57 #[.int .i64 R, .int .i64 C] w (MatRes (mkM R C zeroM) w) := by
  have HZ : Hid (ints (rowF C (zeroM 0)) = List.replicate C (.int .i64 0)) := hide (by
    apply List.ext_getElem
    · simp [ints, rowF]
    · intro i h1 h2; simp [ints, rowF, zeroM])
  go_enter Try.func57, Try.ntmps57
  go_wp2
  go_loopw [5, 6] (fun o i w' => ∃ (y : Nat) (v : Value), y ≤ R ∧ i = .int .i64 y ∧ v = o ∧ OwnMat w' w.heap.size w'.heap.size v (mkM y C zeroM) ∧ Below w.heap.size w w') (fun _ i _ => R - (intOf i).toNat)
  case atStart => exact ⟨0, _, by omega, rfl, rfl, ⟨[], World.ownsRow_made (base := w.heap.size) w #[] 0 (Nat.le_refl _) (Nat.zero_le _) rfl, (fun k e => by simp [Value.ownBlock] at e; subst e; simp), (fun i h => absurd h (Nat.not_lt_zero _)), fun i j _ h => absurd h (Nat.not_lt_zero _)⟩, (Below.refl _ _).alloc (Nat.le_refl _) _⟩
  case round =>
    obtain ⟨y, v, hy, rfl, rfl, hown, hb⟩ := hrel
    have HO := hide hown; have HB := hide hb
    clear hown hb
    by_cases hlt : y < R
    · have hyI : (y : Int) < R := by omega
      have hsz := HB.out.size
      go_wp2_with (first | (at_make; refine wpList_new wr.heap.size C (.int .i64 0) rfl _ _ rfl Try.underlying30 Try.infoInt rfl (by decide) rfl rfl (by omega) (Nat.le_refl _) ?_; intro w1 hown1 hb1 hg1; have O1 := hide (ownMat_below HO.out hb1); have HU : Hid (w1.ownsRow wr.heap.size 3 1 (.slice (some ⟨wr.heap.size, 0, none⟩) C C) (rowF C (zeroM y)).length (ints (rowF C (zeroM y)))) := hide (by rw [rowF_len, show ints (rowF C (zeroM y)) = List.replicate C (.int .i64 0) from HZ.out]; exact hown1); have HB1 := hide (HB.out.trans (hb1.mono hsz)); have hs1 := hb1.size; clear hown1 hb1 hg1; obtain ⟨vs, hv, hvh, hvr, hva⟩ := O1.out; have hvl := mkM_len y C zeroM; rw [hvl] at hv; have HV := hide hv; have HVR := hide hvr; have HVA := hide hva; clear hv hvh hvr hva hvl) | (at_builtin; refine wpList_push HV.out (.slice (some ⟨wr.heap.size, 0, none⟩) C C) (.slice none 0 0) rfl _ _ rfl Try.underlying23 Try.infoInts rfl (by decide) rfl rfl rfl (by omega) (by omega) ?_; intro v' w6 hown1 hb1 hg1))
      go_roundw
      case rel =>
        have hs6 := hb1.size
        have hp := ownMat_push (r := rowF C (zeroM y)) (hi' := w6.heap.size) HVR.out HVA.out (by rw [mkM_len]; exact HV.out) (by rw [rowF_len]; have := HU.out; rw [rowF_len] at this; exact this) hsz (by omega) (by omega) hg1 (by rw [mkM_len]; exact hown1) (fun k e => (hown1.lt k e).2)
        rw [← mkM_succ] at hp
        exact ⟨y + 1, _, by omega, by go_num, rfl, hp, HB1.out.trans (hb1.mono (by omega))⟩
      case measure => simp [intOf]; omega
    · obtain rfl : y = R := by omega
      go_wp2
      go_ret
      exact ⟨_, rfl, HO.out, HB.out⟩

end Go.Proofs.Ytjnnoabaepmcnaa
