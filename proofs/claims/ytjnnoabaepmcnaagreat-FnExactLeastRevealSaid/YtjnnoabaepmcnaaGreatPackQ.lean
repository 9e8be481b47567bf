/-
  Texts of this claim, one behind the other: RevR, AscR, RevG, LrI, LrJ, RevS.
-/
import Derived.Test.YtjnnoabaepmcnaaGreatPackO
import Derived.Test.YtjnnoabaepmcnaaGreatPackP
import Derived.Test.YtjnnoabaepmcnaaGreatPackH
import Derived.Test.YtjnnoabaepmcnaaGreatPackE
import Derived.Test.YtjnnoabaepmcnaaGreatPackN
import Derived.Test.YtjnnoabaepmcnaaGreatPackK
import Derived.BigQuiet
/-
  The changes of all images with the sums of one.
-/
namespace Go.Proofs.YtjnnoabaepmcnaaGreat
open Go.RowKit Go.Shelf
attribute [local go_sem] Oper.semAt_some

def rowOF (B : Nat) (r : List Int) : FactP := fun u w2 => w2.ownsRow B 3 1 u r.length (ints r)
theorem stable_rowOF (B : Nat) (r : List Int) : StableP (rowOF B r) := fun _ _ _ hb h => own_below h hb
/-- The iterator over all images, at rows that lie above the caller's blocks. -/
theorem iter_startO {r c : List Int} {va vb : Value} {W : World} {b1 b2 b3 base : Nat} {A : Nat → Prop} (ha : W.ownsRow base 3 1 va r.length (ints r)) (hb : W.ownsRow base 3 1 vb c.length (ints c)) (hA : ∀ k, A k → k < base) (hAW : ∀ k, A k → k < W.heap.size) (hs : sumsOk r c = true)
    (h1 : W.cell? ⟨b1, 0, none⟩ = some va) (h2 : W.cell? ⟨b2, 0, none⟩ = some vb) (h3 : W.cell? ⟨b3, 0, none⟩ = some (.func (.func 62) #[] #[])) (hb1 : ¬ A b1) (hb2 : ¬ A b2) (hb3 : ¬ A b3) :
    EachC Tryz.prog 67 #[.pointer (some ⟨b1, 0, none⟩), .pointer (some ⟨b3, 0, none⟩), .pointer (some ⟨b2, 0, none⟩)] (allL r c) ValM W A := by
  obtain ⟨hr5, hc5, -⟩ := sumsOk_yes hs
  rw [← imL_all]
  exact iter_any 62 (enters_of Tryz.func62 (by kernel_rfl) rfl) #[] _ r c b1 b2 b3 va vb A W (safe_and (safe_cell h1 hb1) (safe_and (safe_cell h2 hb2) (safe_and (safe_cell h3 hb3) (safe_and (safe_imp (safe_own ha hA) fun _ h => rowC_own h) (safe_and (safe_imp (safe_own hb hA) fun _ h => inRow_own h) (fun _ _ _ => chF_first _ _)))))) hAW hr5.2 hc5 (mid_sums hs)
theorem exec_storeCS {ρ : Operand → Value} {o : Oper} {w : World} {x y : Operand} {q n n0 c c0 : Nat} {a a0 : Option Addr} (ho : o.op = .store 40 x y) (hx : ρ x = .pointer (some ⟨q, 0, none⟩)) (hy : ρ y = .slice a n c) (hb : Boxed w q 40 (.slice a0 n0 c0)) :
    (execOp ρ o).run Tryz.prog w = .ok .skip (w.setCell ⟨q, 0, none⟩ (.slice a n c)) := by
  have hc := hb.cell
  have hf := hb.frozen
  unfold execOp
  simp only [ho, hx, hy]
  go_simp
/-- A list of one set, new. -/
def oneCF (s : Int) : FactP := fun u w2 => ∃ b, u = .slice (some ⟨b, 0, none⟩) 1 1 ∧ b < w2.heap.size ∧ w2.cell? ⟨b, 0, none⟩ = some (.int .i64 s)
theorem stable_oneCF (s : Int) : StableP (oneCF s) := fun _ _ _ hb h => by
  obtain ⟨b, h1, h2, h3⟩ := h
  exact ⟨b, h1, Nat.lt_of_lt_of_le h2 hb.size, below_cell hb h2 h3⟩
def appCF (W : World) (lo : Nat) (v : Value) (n : Nat) (xs : List Value) : FactP := fun u w2 => w2.ownsRow lo 49 1 u n xs ∧ W.grownBy w2 v.ownBlock ∧ ∀ k, u.ownBlock = some k → v.ownBlock = some k ∨ W.heap.size ≤ k
theorem stable_appCF (W : World) (lo : Nat) (v : Value) (n : Nat) (xs : List Value) : StableP (appCF W lo v n xs) := fun _ _ _ hb h => ⟨own_below h.1 hb, grown_trans h.2.1 (grown_of_below hb _), h.2.2⟩
theorem exec_build1CS {ρ : Operand → Value} {o : Oper} {w : World} {x : Operand} {s : Int} (ho : o.op = .buildSlice 40 1 #[(0, x)]) (hx : ρ x = .int .i64 s) :
    (execOp ρ o).run Tryz.prog w = .ok (.value (.slice (some ⟨w.heap.size, 0, none⟩) 1 1)) (w.alloc (.cells #[.int .i64 s] 49)) := by
  unfold execOp
  simp only [ho]
  go_simp
theorem exec_app1CS (ty : TypeId) {W : World} {B b n : Nat} {v : Value} {xs : List Value} {s : Int} (hv : W.ownsRow B 49 1 v n xs) (hc : W.cell? ⟨b, 0, none⟩ = some (.int .i64 s)) (hB : B ≤ W.heap.size) (hn : n < 4000000) :
    ∃ v' w', (∀ (ρ : Operand → Value) (o : Oper) (x y : Operand), o.op = .call { callee := .builtin .append, args := #[x, y], argTypes := #[40, 40] } → o.type = ty → ρ x = v → ρ y = .slice (some ⟨b, 0, none⟩) 1 1 → (execOp ρ o).run Tryz.prog W = .ok (.value v') w') ∧ w'.ownsRow B 49 1 v' (n + 1) (xs ++ [.int .i64 s]) ∧ W.grownBy w' v.ownBlock ∧ (v'.ownBlock = v.ownBlock ∨ v'.ownBlock = some W.heap.size) := by
  obtain ⟨i0, hi, hz0, hz1, hz2⟩ := info_parts Tryz.infoCS
  obtain ⟨v', w', hr, g1, g2, -, g4⟩ := run_append_own_at (P := Tryz.prog) (w := W) B 40 ty 49 i0 _ 1 8 Tryz.underlying40 hi hz0 hz1 hz2 rfl (by decide) _ n xs hv ⟨b, 0, none⟩ 1 1 [.int .i64 s] rfl (fun j u hj => by
      obtain rfl : j = 0 := by have := (List.getElem?_eq_some_iff.1 hj).1; simpa using this
      rw [addr_add, Nat.zero_add, hc]
      simpa using hj) (fun u hu => by
      obtain rfl : u = .int .i64 s := by simpa using hu
      rfl) (by unfold maxLen; omega) (by omega) hB
  refine ⟨v', w', ?_, g1, g2, g4⟩
  intro ρ o x y ho ht hx hy
  subst ht
  unfold execOp
  simp only [ho, resolve, invoke, builtin, Sem.run_bind, Sem.run_pure, Result.andThen_ok, List.map_toArray, List.map_cons, List.map_nil, hx, hy, hr]
/-- What the search has gathered: the changes of the images so far; A: the caller's blocks. -/
def ChgSt (q : Nat) (u : List (List Int) → Int) (pre : List (List (List Int))) (A : Nat → Prop) (W : World) : Prop :=
  ∃ v, Boxed W q 40 v ∧ W.ownsRow q 49 1 v (pre.map u).length (ints (pre.map u)) ∧ A q ∧ (∀ k, v.ownBlock = some k → A k) ∧ ∀ k, A k → q ≤ k ∧ k < W.heap.size
theorem chgSt_abid (q : Nat) (u : List (List Int) → Int) (B : Nat) : AbidF B (ChgSt q u) := by
  rintro pre A W W' ⟨v, h1, h2, h3, h4, h5⟩ - - - hsz hk
  refine ⟨v, (hk _ h1.lt (.inr h3)).trans h1, own_agr h2 fun k e => hk k (h2.lt k e).2 (.inr (h4 k e)), h3, h4, fun k hA => ?_⟩
  have := h5 k hA; omega
set_option maxRecDepth 100000 in
set_option maxHeartbeats 4000000 in
theorem changesOf_any (v : Value) (R C : Nat) (f : Nat → Nat → Int) (w : World) (hin : InMat w v (mkM R C f)) (hI : Img R C f) :
    Calls Tryz.prog 28 #[v] w (SetsRes w.heap.size (chgs R C f) w) := by
  have HM := hide hin; have HI := hide hI
  have HRC := hide (And.intro (And.intro hI.r1 hI.r2) (And.intro hI.c1 hI.c2))
  obtain ⟨gm, om, cm, rfl, -, -⟩ := inMat_img hin (by have := hI.r1; omega) (by have := hI.c1; omega)
  have HLEN := hide (simL_len R C f HRC.out.1 HRC.out.2)
  have HMK := hide fun (m : List (List Int)) (hm : m ∈ simL R C f) => allL_I hI hm
  unfold chgs
  have HSO := hide (sumsOk_img hI)
  obtain ⟨rr, hrr⟩ : ∃ rr, rr = rowsL R C f := ⟨_, rfl⟩
  obtain ⟨kk, hkk⟩ : ∃ kk, kk = rowsL C R (trM f) := ⟨_, rfl⟩
  have HRR := hide hrr; have HKK := hide hkk
  obtain ⟨L, hL⟩ : ∃ L, L = simL R C f := ⟨_, rfl⟩
  have hL2 : L = allL rr kk := by rw [hL, simL, hrr, hkk]
  rw [← hrr, ← hkk] at HSO
  rw [← hL] at HLEN HMK ⊢
  have HSEQ := hide fun (W : World) (vr vc : Value) (b base : Nat) (A : Nat → Prop) (h1 : W.ownsRow base 3 1 vr rr.length (ints rr)) (h2 : W.ownsRow base 3 1 vc kk.length (ints kk)) (h3 : ∀ k, A k → k < base) (h4 : ∀ k, A k → k < W.heap.size) (h5 : W.cell? ⟨b, 0, none⟩ = some vr) (h6 : W.cell? ⟨b + 1, 0, none⟩ = some vc) (h7 : W.cell? ⟨b + 2, 0, none⟩ = some (.func (.func 62) #[] #[])) => iter_startO (A := A) h1 h2 h3 h4 HSO.out h5 h6 h7
  rw [← hL2] at HSEQ
  obtain ⟨w1, hw1⟩ : ∃ w1, w1 = (w.alloc (.cells #[.slice (some ⟨gm, om, none⟩) R cm] 22)).alloc (.cells #[.slice none 0 0] 40) := ⟨_, rfl⟩
  have B1 := hide (show Below w.heap.size w w1 by
    rw [hw1]
    exact ((Below.refl _ w).alloc (Nat.le_refl _) _).alloc (by simp) _)
  have HS1 := hide (show w1.heap.size = w.heap.size + 2 by rw [hw1]; simp)
  have HQ0 := hide (show Boxed w1 w.heap.size 22 (.slice (some ⟨gm, om, none⟩) R cm) by
    rw [hw1]; exact (Boxed.new w _ _).alloc _)
  have HQ1 := hide (show Boxed w1 (w.heap.size + 1) 40 (.slice none 0 0) by
    have := Boxed.new (w.alloc (.cells #[.slice (some ⟨gm, om, none⟩) R cm] 22)) 40 (.slice none 0 0)
    rw [World.size_alloc] at this
    rw [hw1]; exact this)
  clear hL hL2 hrr hkk hin hI HSO
  refine (callsIn_wide (n := 0)).1 ?_
  refine callsIn_of_wp_marks Tryz.func28 rfl trivial ?_ rfl
  simp only [Tryz.ntmps28, List.size_toArray, List.length_cons, List.length_nil, Nat.reduceAdd, Nat.reduceSub, Array.replicate_succ, Array.replicate_zero, List.push_toArray, List.append_toArray, List.nil_append, List.cons_append]
  gi_wp2_with fail
  rw [← hw1]
  clear hw1
  rw [wpIn_wide]
  obtain ⟨fs, hfs⟩ : ∃ fs : List FactP, fs = [(isV (.slice (some ⟨gm, om, none⟩) R cm)), (rowOF w1.heap.size rr), (isV (.slice (some ⟨gm, om, none⟩) R cm)), (rowOF w1.heap.size kk)] := ⟨_, rfl⟩
  have hst : ∀ f ∈ fs, StableP f := by
    rw [hfs]; intro f hf
    simp only [List.mem_cons, List.not_mem_nil, or_false] at hf
    rcases hf with rfl | rfl | rfl | rfl <;> first | exact stable_v _ | exact stable_rowOF _ _
  subst hfs
  refine wp_region_g (S := fun w2 => Below w1.heap.size w1 w2) [(isV (.slice (some ⟨gm, om, none⟩) R cm)), (rowOF w1.heap.size rr), (isV (.slice (some ⟨gm, om, none⟩) R cm)), (rowOF w1.heap.size kk)] [(1, .pointer (some ⟨w.heap.size, 0, none⟩))] _ _ 4 (by kernel_rfl) rfl rfl (by kernel_rfl) (by kernel_rfl) rfl (by kernel_rfl) ?base (below_drew (Below.refl _ _)) ?ob rfl ?fin
  case base =>
    intro t v ht
    simp only [List.lookup_cons, List.lookup_nil] at ht
    repeat' split at ht
    all_goals first | (cases ht; done) | (obtain rfl := Option.some.inj ht; rename_i hh; obtain rfl := eq_of_beq hh; rfl)
  case ob =>
    exact ⟨obg_of rfl (obt_one (.slice (some ⟨gm, om, none⟩) R cm) rfl rfl (srt_b 1 rfl) (fun ρ w2 hS hx => by have hc := below_cell hS HQ0.out.lt HQ0.out.cell; go_simp)),
      obg_of rfl (obt_call hst [.slice (some ⟨gm, om, none⟩) R cm] rfl Tryz.func46 (by kernel_rfl) (by kernel_rfl) rfl ⟨(srt_j 0 rfl (by kernel_rfl) rfl), trivial⟩ (fun w2 hS => (implRowSums_yes _ R C f w2 (inMat_below HM.out (B1.out.trans (hS.mono B1.out.size))) HI.out).mono fun e w3 ⟨u, he, ho, hh⟩ => ⟨_, he, hS.trans (hh.mono hS.size), hh, by rw [← HRR.out] at ho; exact own_base ho hS.size⟩)),
      obg_of rfl (obt_one (.slice (some ⟨gm, om, none⟩) R cm) rfl rfl (srt_b 1 rfl) (fun ρ w2 hS hx => by have hc := below_cell hS HQ0.out.lt HQ0.out.cell; go_simp)),
      obg_of rfl (obt_call hst [.slice (some ⟨gm, om, none⟩) R cm] rfl Tryz.func47 (by kernel_rfl) (by kernel_rfl) rfl ⟨(srt_j 2 rfl (by kernel_rfl) rfl), trivial⟩ (fun w2 hS => (implColSums_yes _ R C f w2 (inMat_below HM.out (B1.out.trans (hS.mono B1.out.size))) HI.out).mono fun e w3 ⟨u, he, ho, hh⟩ => ⟨_, he, hS.trans (hh.mono hS.size), hh, by rw [← HKK.out] at ho; exact own_base ho hS.size⟩)),
      trivial⟩
  case fin =>
    intro a' w' h1 h2 h3 hS h4 K hK
    have h6 : w'.ownsRow w1.heap.size 3 1 (a'.tmps.getD 6 undef) rr.length (ints rr) := h4 1 6 rfl (by decide)
    have h8 : w'.ownsRow w1.heap.size 3 1 (a'.tmps.getD 8 undef) kk.length (ints kk) := h4 3 8 rfl (by decide)
    obtain ⟨vr, hvr⟩ : ∃ u, a'.tmps.getD 6 undef = u := ⟨_, rfl⟩
    obtain ⟨vc, hvc⟩ : ∃ u, a'.tmps.getD 8 undef = u := ⟨_, rfl⟩
    rw [hvr] at h6
    rw [hvc] at h8
    refine run_call rfl Tryz.func45 (by kernel_rfl) (by kernel_rfl) #[vr, vc] (by
      simp only [List.map_toArray, List.map_cons, List.map_nil]
      rw [show a'.eval (.tmp 6) = a'.tmps.getD 6 undef from rfl, show a'.eval (.tmp 8) = a'.tmps.getD 8 undef from rfl, hvr, hvc]) ?_
    refine (imagesWith_any vr vc rr kk w' (rowC_own h6) (inRow_own h8)).mono ?_
    rintro e w3 ⟨rfl, hx0, hx1, hx2, hb3, hs3⟩
    refine ⟨_, rfl, hK _ _ ?_⟩
    have ha := frame_ov rfl h1 h2 h3 [(5, a'.tmps.getD 5 undef), (6, vr), (7, a'.tmps.getD 7 undef), (8, vc), (9, a'.tmps.getD 9 undef)] (by kernel_rfl) ⟨rfl, hvr, rfl, hvc, rfl, trivial⟩
    dsimp only [ov, List.lookup, Nat.reduceBEq, Nat.reduceAdd] at ha
    rw [ha]
    generalize a'.tmps.getD 5 undef = u5
    generalize a'.tmps.getD 7 undef = u7
    generalize a'.tmps.getD 9 undef = u9
    have B2 := hide (B1.out.trans (hS.mono B1.out.size))
    have B3 := hide (B2.out.trans (hb3.mono B2.out.size))
    have HVR := hide (own_below h6 hb3); have HVC := hide (own_below h8 hb3)
    have HX := hide (And.intro hx0 (And.intro hx1 hx2))
    have HS3 := hide hs3
    have h1w := hS.size
    have HSZ := hide (show w1.heap.size ≤ w'.heap.size from h1w)
    have h13 : Below w1.heap.size w1 w3 := hS.trans (hb3.mono h1w)
    have HBX := hide (show Boxed w3 (w.heap.size + 1) 40 (.slice none 0 0) from (h13.block _ HQ1.out.lt).trans HQ1.out)
    have HBM := hide (show Boxed w3 w.heap.size 22 (.slice (some ⟨gm, om, none⟩) R cm) from (h13.block _ HQ0.out.lt).trans HQ0.out)
    clear hst h1 h2 h3 h4 hK ha h6 h8 hx0 hx1 hx2 hb3 hs3 h1w h13 hvr hvc hS
    gi_wp2_with fail
    refine wp_rangeEach (gf := 67) (lb := #[.pointer (some ⟨w'.heap.size, 0, none⟩), .pointer (some ⟨w'.heap.size + 2, 0, none⟩), .pointer (some ⟨w'.heap.size + 1, 0, none⟩)]) rfl (enters_of Tryz.func67 (by kernel_rfl) rfl)
      (L := L) (Val := ValM) (fun v m lo G W W' h1 _ h3 => valM_agr h1 h3) (fun k => k = w.heap.size + 1) (fun k hk => by have h1 := HS1.out; have h2 := HS3.out; have h3 := HSZ.out; omega) (fun W4 hb4 hs4 => ?seq) rfl
      (ChgSt (w.heap.size + 1) (fun o => ((chgN R C f (cellM o) : Nat) : Int))) (fun _ _ _ _ => False) (chgSt_abid _ _ _) (fun _ _ _ _ _ h => h.elim) (fun pre A W h k hk => by obtain ⟨v, -, -, -, -, h5⟩ := h; exact (h5 k hk).2) ⟨_, HBX.out, World.ownsRow_nil _ _ _ _, rfl, fun k hk => by simp [Value.ownBlock] at hk, fun k hk => by have h1 := HS1.out; have h2 := HS3.out; have h3 := HSZ.out; omega⟩
      (fun x => { tmps := #[.slice (some ⟨gm, om, none⟩) R cm, .pointer (some ⟨w.heap.size, 0, none⟩), .slice none 0 0, .pointer (some ⟨w.heap.size + 1, 0, none⟩), x, u5, vr, u7, vc, .func (.func 67) #[] #[.pointer (some ⟨w'.heap.size, 0, none⟩), .pointer (some ⟨w'.heap.size + 2, 0, none⟩), .pointer (some ⟨w'.heap.size + 1, 0, none⟩)], x, undef, undef, undef, undef, undef, undef, undef], defers := [] }) ?assign ?body ?done ?stop
    case seq =>
      have h1 := HS1.out; have h2 := HS3.out; have h3 := HSZ.out
      have hx := HX.out
      exact HSEQ.out W4 vr vc w'.heap.size w1.heap.size _ (own_below HVR.out hb4) (own_below HVC.out hb4) (fun k hk => by omega) (fun k hk => by omega) (below_cell hb4 (by omega) hx.1) (below_cell hb4 (by omega) hx.2.1) (below_cell hb4 (by omega) hx.2.2) (fun h => by omega) (fun h => by omega) (fun h => by omega)
    case assign =>
      intro l2 x m lo G W K hv hK
      obtain ⟨ax, nx, cx, rfl⟩ : ∃ a n c, x = .slice a n c := by obtain ⟨vs, ⟨hv, -⟩, -⟩ := hv; obtain ⟨a, c, h⟩ := own_slice hv; exact ⟨a, _, c, h⟩
      clear hv
      gi_wp2
      exact hK
    case body =>
      intro l2 pre A m x lo G W hi hst hpre hval hlo hlo1 hAlo hG
      have hlen : pre.length + 1 ≤ 100000 := by have := hpre.length_le; have := HLEN.out; rw [List.length_append, List.length_singleton] at *; omega
      obtain ⟨v, hq1, hq2, hAq, hAv, hAk⟩ := hi
      have hmL : m ∈ L := hpre.subset (by simp)
      have hBW : Below w.heap.size w W := below_itStep B3.out (fun k hk => by omega) hst
      obtain ⟨ho1, ho2, -⟩ := HMK.out m hmL
      have hmx : InMat W x (mkM R C (cellM m)) := by rw [← ho1]; exact inMat_own (valM_own hval fun k hk => (hG k hk).2)
      obtain ⟨ax, nx, cx, rfl⟩ : ∃ a n c, x = .slice a n c := by obtain ⟨vs, ⟨hv, -⟩, -⟩ := id hval; obtain ⟨a, c, h⟩ := own_slice hv; exact ⟨a, _, c, h⟩
      obtain ⟨av, cv, hve⟩ := own_slice hq2
      rw [List.length_map] at hve hq2
      subst hve
      have hbm : Boxed W w.heap.size 22 (.slice (some ⟨gm, om, none⟩) R cm) := (hst.1.block _ HBM.out.lt (fun h => by omega)).trans HBM.out
      have HQ := hide hq1; have HO := hide hq2; have HBM2 := hide hbm; have HMX := hide hmx; have HBW := hide hBW
      have HAQ := hide hAq; have HAV := hide hAv; have HAK := hide hAk
      have HNL := hide (show (ints (pre.map fun o => ((chgN R C f (cellM o) : Nat) : Int))) ++ [.int .i64 ((chgN R C f (cellM m) : Nat) : Int)] = ints ((pre ++ [m]).map fun o => ((chgN R C f (cellM o) : Nat) : Int)) by simp [ints])
      obtain ⟨s, hs⟩ : ∃ s, s = ((chgN R C f (cellM m) : Nat) : Int) := ⟨_, rfl⟩
      have HCC := hide fun (w2 : World) (hb : Below W.heap.size W w2) => changedCells_any (.slice (some ⟨gm, om, none⟩) R cm) (.slice ax nx cx) R C f (cellM m) w2 (inMat_below HM.out (HBW.out.trans (hb.mono HBW.out.size))) (inMat_below HMX.out hb) HRC.out.1 HRC.out.2
      rw [← hs] at HCC HNL
      obtain ⟨xs, hxs⟩ : ∃ xs, xs = ints (pre.map fun o => ((chgN R C f (cellM o) : Nat) : Int)) := ⟨_, rfl⟩
      rw [← hxs] at HO HNL
      obtain ⟨np, hnp⟩ : ∃ np, np = pre.length := ⟨_, rfl⟩
      have HNP := hide hnp
      rw [← hnp] at HO HQ HAV hlen
      clear hst hpre hval hlo hlo1 hAlo hG hq1 hq2 hAq hAv hAk hmL hBW ho1 ho2 hmx hbm hs hxs hnp
      have hfs : ∀ q ∈ ([isV (.slice av np cv), isV (.slice (some ⟨gm, om, none⟩) R cm), isV (.slice ax nx cx), isV (.int .i64 s), oneCF s, appCF W (w.heap.size + 1) (.slice av np cv) (np + 1) (xs ++ [.int .i64 s])] : List FactP), StableP q := by
        intro q hq
        simp only [List.mem_cons, List.not_mem_nil, or_false] at hq
        rcases hq with rfl | rfl | rfl | rfl | rfl | rfl <;> first | exact stable_v _ | exact stable_oneCF _ | exact stable_appCF _ _ _ _ _
      have hS1 : ∀ (wy wz : World), Below W.heap.size W.drew wy → Below wy.heap.size wy wz → Below W.heap.size W.drew wz := fun wy wz h k => h.trans (k.mono h.size)
      have hS0 : ∀ wy : World, Below W.heap.size W.drew wy → Below W.heap.size W wy := fun wy h => (below_drew (Below.refl _ W)).trans h
      have hqlt := HQ.out.lt
      try gi_wp2_with fail
      refine wpIn_region_pen (S := fun wy => Below W.heap.size W.drew wy) 5 [isV (.slice av np cv), isV (.slice (some ⟨gm, om, none⟩) R cm), isV (.slice ax nx cx), isV (.int .i64 s), oneCF s, appCF W (w.heap.size + 1) (.slice av np cv) (np + 1) (xs ++ [.int .i64 s])] [(1, .pointer (some ⟨w.heap.size, 0, none⟩)), (3, .pointer (some ⟨w.heap.size + 1, 0, none⟩)), (4, .slice ax nx cx)] _ _ 6 (by kernel_rfl) (by decide) (by kernel_rfl) rfl rfl (by kernel_rfl) (by kernel_rfl) rfl (by kernel_rfl) ?baseA (Below.refl _ _) ?obA rfl (by intro c; simp) ?finA
      case baseA =>
        intro t v ht
        simp only [List.lookup_cons, List.lookup_nil] at ht
        repeat' split at ht
        all_goals first | (cases ht; done) | (obtain rfl := Option.some.inj ht; rename_i hh; obtain rfl := eq_of_beq hh; rfl)
      case obA =>
        exact ⟨obi_of (by intro c; simp) (obp_of (obn_of (by kernel_rfl) (obt_one (.slice av np cv) rfl rfl (srt_b 3 rfl) (fun ρ w2 hS hx => by have hc := below_cell (hS0 _ hS) hqlt HQ.out.cell; go_simp)))),
          obi_of (by intro c; simp) (obp_of (obn_of (by kernel_rfl) (obt_one (.slice (some ⟨gm, om, none⟩) R cm) rfl rfl (srt_b 1 rfl) (fun ρ w2 hS hx => by have hc := below_cell (hS0 _ hS) HBM2.out.lt HBM2.out.cell; go_simp)))),
          obi_of (by intro c; simp) (obp_of (obn_of (by kernel_rfl) (obt_move (.slice ax nx cx) rfl rfl rfl (srt_b 4 rfl)))),
          obi_of (by intro c; simp) (obp_of (obn_of (by kernel_rfl) (obt_call hfs [.slice (some ⟨gm, om, none⟩) R cm, .slice ax nx cx] rfl Tryz.func48 (by kernel_rfl) (by kernel_rfl) rfl ⟨srt_j 1 rfl (by kernel_rfl) rfl, srt_j 2 rfl (by kernel_rfl) rfl, trivial⟩ (fun w2 hS => (HCC.out w2 (hS0 _ hS)).mono fun e w3 ⟨he, hw⟩ => ⟨_, he, hw ▸ hS, hw ▸ Below.refl _ _, rfl⟩)))),
          obi_of (by intro c; simp) (obp_of (obn_of (by kernel_rfl) (obt_make hfs rfl fun ac wy hS hs => ⟨_, _, exec_build1CS (s := s) rfl (hs _ _ (srt_j 3 rfl (by kernel_rfl) rfl)), hS1 _ _ hS ((Below.refl _ _).alloc (Nat.le_refl _) _), (Below.refl _ _).alloc (Nat.le_refl _) _, ⟨wy.heap.size, rfl, by simp, by rw [World.cell?_alloc_new]; rfl⟩⟩))),
          obi_of (by intro c; simp) (fun ac wy hS hB hD K hK => by
            have h11 : ac.tmps.getD 11 undef = .slice av np cv := hD 0 11 rfl (by kernel_rfl)
            obtain ⟨b, e15, hb1, hb2⟩ : oneCF s (ac.tmps.getD 15 undef) wy := hD 4 15 rfl (by kernel_rfl)
            obtain ⟨v', wz, hr, ho, hgr, hlies⟩ := exec_app1CS 40 (own_below HO.out (hS0 _ hS)) hb2 (by have := (hS0 _ hS).size; omega) (by omega)
            exact ⟨.inl rfl, run_value v' (hr ac.eval _ (.tmp 11) (.tmp 15) rfl rfl h11 e15) (hK _ _ (fun hne => absurd rfl hne) (fun j hj => absurd (needPL_of hj) (by rw [show needPL _ 5 = [] by kernel_rfl]; simp)) ⟨ho, grown_trans (grown_of_below (hS0 _ hS) _) hgr, fun k hk => by
              rcases hlies with h | h
              · exact .inl (by rw [← h]; exact hk)
              · rw [hk] at h
                have := (hS0 _ hS).size
                right; cases h; exact this⟩)⟩),
          trivial⟩
      case finA =>
        intro a' w2 h1 h2 h3 h4 K hK
        obtain ⟨ho, hg, hl⟩ : appCF W (w.heap.size + 1) (.slice av np cv) (np + 1) (xs ++ [Value.int .i64 s]) (a'.tmps.getD 16 undef) w2 := h4 5 16 rfl (by decide) (by kernel_rfl)
        obtain ⟨v16, hv16⟩ : ∃ u, a'.tmps.getD 16 undef = u := ⟨_, rfl⟩
        rw [hv16] at ho hl
        obtain ⟨a16, c16, rfl⟩ : ∃ a c, v16 = .slice a (np + 1) c := by
          rcases ho.2 with ⟨rfl, h0⟩ | ⟨g, cap, cur, rfl, -⟩
          · exact absurd h0 (by omega)
          · exact ⟨_, _, rfl⟩
        have hbq := HQ.out.kept hg (HQ.out.not_row (by decide) HO.out)
        have h3e : a'.eval (.tmp 3) = .pointer (some ⟨w.heap.size + 1, 0, none⟩) := (h3 3 (by kernel_rfl)).trans rfl
        refine run_skip (exec_storeCS rfl h3e (show a'.eval (.tmp 16) = _ from hv16) hbq) (hK _ _ ?_)
        have hneq : ∀ k, (Value.slice a16 (np + 1) c16).ownBlock = some k → k ≠ w.heap.size + 1 := fun k hk e => by
          have := hbq.not_row (by decide) ho
          rw [hk, e] at this
          exact this rfl
        have hsz2 : (w2.setCell ⟨w.heap.size + 1, 0, none⟩ (.slice a16 (np + 1) c16)).heap.size = w2.heap.size := by simp [World.setCell]
        refine ⟨fun k => A k ∨ (Value.slice a16 (np + 1) c16).ownBlock = some k, ⟨_, hbq.set _, ?_, .inl HAQ.out, fun k hk => .inr hk, fun k hk => ?_⟩, ⟨⟨hg.os, hg.tape, hg.output, by have := hg.size; omega, fun k hk hn => ?_⟩, fun k hk => ?_⟩⟩
        · rw [← HNL.out, List.length_map, List.length_append, List.length_singleton, ← HNP.out]
          exact own_agr ho fun k e => Below.heap_setCell _ _ _ _ (hneq k e)
        · rcases hk with hk | hk
          · have := HAK.out k hk; have := hg.size; omega
          · have := ho.lt k hk; omega
        · rw [Below.heap_setCell _ _ _ _ (fun e => hn (by have e' : k = w.heap.size + 1 := e; rw [e']; exact HAQ.out)), hg.block k hk fun e => hn (HAV.out k e.symm)]
        · rcases hk with hk | hk
          · exact .inl hk
          · rcases hl k hk with h | h
            · exact .inl (HAV.out k h)
            · exact .inr (.inr h)
    case done =>
      rintro A W ⟨v, hq1, hq2, hAq, hAv, hAk⟩ hst _ hmk
      obtain ⟨av, cv, hve⟩ := own_slice hq2
      rw [List.length_map] at hve hq2
      subst hve
      have hc1 := hq1.cell
      have HMK2 := hide hmk
      have HOW := hide hq2
      have HBB := hide (below_itStep B3.out (fun k hk => by omega) hst)
      clear hst hmk hq1 hq2 hAq hAv hAk
      gi_wp2
      refine ⟨by simp, .inl ⟨_, _, rfl, run_takeDeferred HMK2.out, ?_⟩⟩
      refine ⟨_, results_tmp rfl _ _ _, _, rfl, ?_, below_putObj HBB.out B3.out.size _⟩
      unfold OwnCS
      rw [List.length_map]
      exact own_base (ownsRow_putObj HOW.out _ HMK2.out rfl) (Nat.le_succ w.heap.size)
    case stop =>
      intro cc pre A W hpre h
      exact h.elim
end Go.Proofs.YtjnnoabaepmcnaaGreat
/-
  Ascending lists of numbers below the number of cells, of the program and of the model.
-/
namespace Go.Proofs.YtjnnoabaepmcnaaGreat
open Go.RowKit Go.Shelf

set_option maxHeartbeats 1000000 in
theorem asc25_any (v : Value) (l : List Int) (n : Nat) (w : World) (hn : n ≤ 25) (hin : InRow w v l) :
    Calls Tryz.prog 39 #[v, .int .i64 n] w fun e w' => e = .returned (.bool (ascB n l)) ∧ w = w' := by
  obtain ⟨a, c, rfl, hm, hp⟩ := hin
  unfold maxLen at hm
  by_cases h0 : l.length = 0
  · have hr : l = [] := List.eq_nil_of_length_eq_zero h0
    subst hr
    clear hp h0 hm
    go_enter Tryz.func39, Tryz.ntmps39
    go_wp2
    go_loop [10] (fun i => i = .int .i64 0) (fun _ => 0)
    case atStart => rfl
    case round =>
      obtain rfl := hrel
      go_wp2
      go_ret
      exact ⟨rfl, rfl⟩
  · obtain ⟨gr, o, rfl, hg, hc⟩ := hp.resolve_left h0
    have HC := hide hc
    obtain ⟨k, hk⟩ : ∃ k, k = l.length := ⟨_, rfl⟩
    have HN := hide hk
    rw [← hk] at hm ⊢
    clear hp hc h0 hk
    go_enter Tryz.func39, Tryz.ntmps39
    go_wp2
    go_loop [5, 10] (fun q i => ∃ t : Nat, t ≤ k ∧ i = .int .i64 t ∧ (∀ j, j < t → ascP n l j = true) ∧ ∃ z : Int, q = .int .i64 z ∧ (0 ≤ z ∧ z ≤ 25) ∧ ((t = 0 ∧ z = 0) ∨ (0 < t ∧ z = l.getD (t - 1) 0 + 1))) (fun _ i => k - (intOf i).toNat)
    case atStart => exact ⟨0, Nat.zero_le _, rfl, fun j h => absurd h (Nat.not_lt_zero _), 0, rfl, by omega, .inl ⟨rfl, rfl⟩⟩
    case round =>
      obtain ⟨t, ht, rfl, hall, z, rfl, hz, hzz⟩ := hrel
      have HA := hide hall; have HZ := hide hzz
      clear hall hzz
      obtain ⟨hz1, hz2⟩ := hz
      by_cases hlt : t < k
      · have ht' : t < l.length := by rw [← HN.out]; exact hlt
        have hx := HC.out t ht'
        have hg : l.getD t 0 = l[t] := by rw [List.getD_eq_getElem?_getD, List.getElem?_eq_getElem ht', Option.getD_some]
        obtain ⟨x, hxx⟩ : ∃ x, x = l[t] := ⟨_, rfl⟩
        rw [← hxx] at hx hg
        have HG := hide hg
        have HP : Hid (ascP n l t = (decide (0 ≤ x ∧ x < n) && decide (z ≤ x))) := hide (by
          unfold ascP
          rw [hg]
          rcases HZ.out with ⟨h1, h2⟩ | ⟨h1, h2⟩
          · subst h1; rw [h2]
            by_cases h : 0 ≤ x
            · simp [h]
            · simp [h]
          · have e1 : (t == 0) = false := by simp; omega
            rw [e1, Bool.false_or, h2]
            congr 1)
        clear hg hxx
        by_cases e1 : x < z
        · have HF := hide (asc_no ht' (by rw [HP.out, decide_eq_false (show ¬ z ≤ x by omega), Bool.and_false] : ascP n l t = false))
          go_wp2
          go_ret
          exact ⟨ret_bool HF.out.symm, rfl⟩
        · by_cases e2 : x < n
          · have HT : Hid (ascP n l t = true) := hide (by rw [HP.out, decide_eq_true (by omega), decide_eq_true (by omega)]; rfl)
            clear HP
            go_wp2
            go_round
            case rel => exact ⟨t + 1, by omega, by go_num, fun j hj => by
              by_cases e : j = t
              · subst e; exact HT.out
              · exact HA.out j (by omega), x + 1, by go_num, by omega, .inr ⟨by omega, by rw [Nat.add_sub_cancel, HG.out]⟩⟩
            case measure => simp [intOf]; omega
          · have HF := hide (asc_no ht' (by rw [HP.out, decide_eq_false (show ¬ (0 ≤ x ∧ x < n) by omega), Bool.false_and] : ascP n l t = false))
            go_wp2
            go_ret
            exact ⟨ret_bool HF.out.symm, rfl⟩
      · have HY := hide (asc_yes (n := n) fun j hj => HA.out j (by have := HN.out; omega))
        go_wp2
        go_ret
        exact ⟨ret_bool HY.out.symm, rfl⟩

set_option maxHeartbeats 1000000 in
theorem list25_any (v : Value) (l : List Int) (n : Nat) (w : World) (hn : n ≤ 25) (hin : InRow w v l) :
    Calls Tryz.prog 33 #[v, .int .i64 n] w fun e w' => e = .returned (.bool (ascB n l)) ∧ w = w' := by
  obtain ⟨a, c, rfl, hm, hp⟩ := hin
  unfold maxLen at hm
  have HP := hide hp
  obtain ⟨k, hk⟩ : ∃ k, k = l.length := ⟨_, rfl⟩
  have HN := hide hk
  rw [← hk] at hm ⊢
  clear hp hk
  go_enter Tryz.func33, Tryz.ntmps33
  go_wp2
  go_loop [9] (fun i => ∃ t : Nat, t ≤ k ∧ i = .int .i64 t ∧ ∀ j, j < t → ascP n l j = true) (fun i => k - (intOf i).toNat)
  case atStart => exact ⟨0, Nat.zero_le _, rfl, fun j h => absurd h (Nat.not_lt_zero _)⟩
  case round =>
    obtain ⟨t, ht, rfl, hall⟩ := hrel
    have HA := hide hall
    clear hall
    by_cases hlt : t < k
    · have ht' : t < l.length := by rw [← HN.out]; exact hlt
      obtain ⟨g, o, rfl, hg, hc⟩ := HP.out.resolve_left (by omega)
      have hx := hc t ht'
      have hgt : l.getD t 0 = l[t] := by rw [List.getD_eq_getElem?_getD, List.getElem?_eq_getElem ht', Option.getD_some]
      obtain ⟨x, hxx⟩ : ∃ x, x = l[t] := ⟨_, rfl⟩
      rw [← hxx] at hx hgt
      have HIN := hide fun w' => l01In_any x 0 ((n : Int) - 1) w'
      have HD := hide (show decide (0 ≤ x ∧ x ≤ (n : Int) - 1) = decide (0 ≤ x ∧ x < n) from decide_eq_decide.2 (by omega))
      rw [HD.out] at HIN
      obtain ⟨d, hd⟩ : ∃ d, d = decide (0 ≤ x ∧ x < (n : Int)) := ⟨_, rfl⟩
      rw [← hd] at HIN
      by_cases h0 : t = 0
      · subst h0
        rw [Nat.add_zero] at hx
        have HP0 : Hid (ascP n l 0 = d) := hide (by unfold ascP; rw [hgt, ← hd]; simp)
        have HNO := hide (fun h => asc_no (n := (n : Int)) ht' h)
        rw [HP0.out] at HNO
        clear hgt hxx hc HD hd
        cases d with
        | true =>
          clear HNO
          go_wp2_with (go_at_call 49; refine (HIN.out _).mono ?_; rintro e w9 ⟨rfl, rfl⟩)
          go_round
          case rel => exact ⟨1, by omega, by go_num, fun j hj => by rw [show j = 0 by omega]; exact HP0.out⟩
          case measure => simp [intOf]; omega
        | false =>
          have HF := hide (HNO.out rfl)
          clear HNO
          go_wp2_with (go_at_call 49; refine (HIN.out _).mono ?_; rintro e w9 ⟨rfl, rfl⟩)
          go_ret
          exact ⟨ret_bool HF.out.symm, rfl⟩
      · obtain ⟨s, rfl⟩ : ∃ s, t = s + 1 := ⟨t - 1, by omega⟩
        have hs' : s < l.length := by omega
        have hz := hc s hs'
        have hgs : l.getD s 0 = l[s] := by rw [List.getD_eq_getElem?_getD, List.getElem?_eq_getElem hs', Option.getD_some]
        obtain ⟨z, hzz⟩ : ∃ z, z = l[s] := ⟨_, rfl⟩
        rw [← hzz] at hz hgs
        have HP0 : Hid (ascP n l (s + 1) = (d && decide (z < x))) := hide (by unfold ascP; rw [hgt, ← hd, Nat.add_sub_cancel, hgs]; rfl)
        have HNO := hide (fun h => asc_no (n := (n : Int)) ht' h)
        rw [HP0.out] at HNO
        have hsi : ((s + 1 : Nat) : Int) - 1 = (s : Int) := by omega
        have hsl : s < k := by omega
        have hpos : (0 : Int) < ((s + 1 : Nat) : Int) := by omega
        clear hgt hxx hc HD hd hgs hzz h0
        cases d with
        | false =>
          have HF := hide (HNO.out rfl)
          clear HNO
          go_wp2_with (go_at_call 49; refine (HIN.out _).mono ?_; rintro e w9 ⟨rfl, rfl⟩)
          go_ret
          exact ⟨ret_bool HF.out.symm, rfl⟩
        | true =>
          by_cases hlx : z < x
          · have HT : Hid (ascP n l (s + 1) = true) := hide (by rw [HP0.out, decide_eq_true hlx]; rfl)
            clear HNO HP0
            go_wp2_with (go_at_call 49; refine (HIN.out _).mono ?_; rintro e w9 ⟨rfl, rfl⟩)
            go_round
            case rel => exact ⟨s + 2, by omega, by go_num, fun j hj => by
              by_cases e : j = s + 1
              · subst e; exact HT.out
              · exact HA.out j (by omega)⟩
            case measure => simp [intOf]; omega
          · have HF := hide (HNO.out (by rw [decide_eq_false hlx]; rfl))
            clear HNO HP0
            go_wp2_with (go_at_call 49; refine (HIN.out _).mono ?_; rintro e w9 ⟨rfl, rfl⟩)
            go_ret
            exact ⟨ret_bool HF.out.symm, rfl⟩
    · have HY := hide (asc_yes (n := n) fun j hj => HA.out j (by have := HN.out; omega))
      go_wp2
      go_ret
      exact ⟨ret_bool HY.out.symm, rfl⟩

end Go.Proofs.YtjnnoabaepmcnaaGreat
/-
  CountAgreeing and IsEnough of the program.
-/
namespace Go.Proofs.YtjnnoabaepmcnaaGreat
open Go.RowKit Go.Shelf

set_option maxHeartbeats 1000000 in
theorem revealOk_any (va vb : Value) (m : List (List Int)) (l : List Int) (w : World) (ha : InMat w va m) (hb : InRow w vb l) :
    Calls Tryz.prog 26 #[va, vb] w fun e w' => e = .returned (.bool (revB m l)) ∧ Below w.heap.size w w' := by
  have HOK := hide (implImageOk_any va m w ha)
  cases h : okB m with
  | false =>
    rw [h] at HOK
    have HF : Hid (revB m l = false) := hide (by rw [revB, h, Bool.false_and])
    rw [HF.out]
    obtain ⟨a, ca, rfl, -, -⟩ := ha
    obtain ⟨b, cb, rfl, -, -⟩ := hb
    generalize m.length = M at *
    generalize l.length = L at *
    clear h HF
    go_enter Tryz.func26, Tryz.ntmps26
    go_wp2_with (go_at_call 31; refine HOK.out.mono ?_; rintro e w1 ⟨rfl, rfl⟩)
    go_ret
    exact ⟨rfl, Below.refl _ _⟩
  | true =>
    rw [h] at HOK
    obtain ⟨R, C, f, rfl, hI⟩ := ok_img h
    have hR1 := hI.r1; have hC1 := hI.c1; have hR := hI.r2; have hC := hI.c2
    have hRC : R * C ≤ 5 * 5 := Nat.mul_le_mul hR hC
    obtain ⟨n, hn⟩ : ∃ n, n = R * C := ⟨_, rfl⟩
    have HF : Hid (revB (mkM R C f) l = ascB (n : Nat) l) := hide (by rw [revB, h, Bool.true_and, mkM_len, width_mkM hR1, hn])
    rw [HF.out]
    have hmul : (R : Int) * (C : Int) = (n : Int) := by rw [hn]; simp
    rw [← hn] at hRC
    have HAS := hide (asc25_any vb l n w (by omega) hb)
    obtain ⟨q, hq⟩ : ∃ q, q = ascB (n : Nat) l := ⟨_, rfl⟩
    rw [← hq] at HAS ⊢
    obtain ⟨ga, oa, ca, rfl, hga, hra⟩ := inMat_img ha (by omega) (by omega)
    obtain ⟨g0, o0, c0, hx0, -⟩ := hra 0 (by omega)
    rw [Nat.add_zero] at hx0
    obtain ⟨b, cb, rfl, -, -⟩ := hb
    generalize l.length = L at *
    have hRp : (0 : Int) < R := by omega
    clear h HF hra hI hn hq ha
    go_enter Tryz.func26, Tryz.ntmps26
    go_wp2_with (first | (go_at_call 31; refine HOK.out.mono ?_; rintro e w1 ⟨rfl, rfl⟩) | (go_at_call 39; refine HAS.out.mono ?_; rintro e w1 ⟨rfl, rfl⟩))
    go_ret
    exact ⟨rfl, Below.refl _ _⟩
theorem ownCS_form {w : World} {lo : Nat} {v : Value} {s : List Int} (h : OwnCS w lo v s) : ∃ a c, v = .slice a s.length c := own_slice h
set_option maxHeartbeats 1000000 in
theorem implCountAg_any (va vb : Value) (m : List (List Int)) (l : List Int) (w : World) (ha : InMat w va m) (hb : InRow w vb l) :
    Calls Tryz.prog 10 #[va, vb] w fun e w' => e = .returned (.int .i64 (cntAg m l)) ∧ Below w.heap.size w w' := by
  have HOK := hide (revealOk_any va vb m l w ha hb)
  cases h : revB m l with
  | false =>
    rw [h] at HOK
    have HF : Hid (cntAg m l = -1) := hide (by rw [cntAg, h]; rfl)
    rw [HF.out]
    obtain ⟨a, ca, rfl, -, -⟩ := ha
    obtain ⟨b, cb, rfl, -, -⟩ := hb
    generalize m.length = M at *
    generalize l.length = L at *
    clear h HF
    go_enter Tryz.func10, Tryz.ntmps10
    go_wp2_with (go_at_call 26; refine HOK.out.mono ?_; rintro e w1 ⟨rfl, b1⟩; have B1 := hide b1; clear b1)
    go_ret
    exact ⟨rfl, B1.out⟩
  | true =>
    rw [h] at HOK
    have h' := h
    rw [revB, Bool.and_eq_true] at h'
    obtain ⟨R, C, f, rfl, hI⟩ := ok_img h'.1
    have hR1 := hI.r1; have hC1 := hI.c1; have hR := hI.r2; have hC := hI.c2
    have hw := width_mkM (C := C) (f := f) (show 0 < R by omega)
    rw [mkM_len, hw] at h'
    have hcells := asc_cells h'.2
    have hRC : R * C ≤ 5 * 5 := Nat.mul_le_mul hR hC
    have hAG := agS_chgs (f := f) hcells
    have HLN : Hid ((agS (chgs R C f) l).length = (agL R C f l).length) := hide (by rw [hAG, List.length_map])
    have HF : Hid (cntAg (mkM R C f) l = ((agL R C f l).length : Nat)) := hide (by
      rw [cntAg, h, if_pos rfl, mkM_len, hw]
      unfold agL simL
      have e1 : rowsL R C (cellM (mkM R C f)) = rowsL R C f := rowsL_congr fun y x hy hx => cell_mk R C f hy hx
      have e2 : rowsL C R (trM (cellM (mkM R C f))) = rowsL C R (trM f) := rowsL_congr fun y x hy hx => cell_mk R C f hx hy
      rw [e1, e2, List.filter_congr fun o _ => agB_congr (g := cellM o) (show 0 < C by omega) hcells fun y x hy hx => cell_mk R C f hy hx])
    rw [HF.out, ← HLN.out]
    have HCH := hide fun (w' : World) (hw' : Below w.heap.size w w') => changesOf_any va R C f w' (inMat_below ha hw') hI
    have HLEN := hide (show (chgs R C f).length ≤ 2000000 by
      have := simL_len R C f ⟨hR1, hR⟩ ⟨hC1, hC⟩
      unfold chgs; rw [List.length_map]; omega)
    have HRG := hide (chgs_range (f := f) hR hC)
    have HL25 : Hid (∀ k ∈ l, 0 ≤ k ∧ k < 25) := hide fun k hk => by have := hcells k hk; omega
    obtain ⟨s, hs⟩ : ∃ s, s = chgs R C f := ⟨_, rfl⟩
    rw [← hs] at HCH HLEN HRG ⊢
    have HB := hide hb
    obtain ⟨a, ca, rfl, -, -⟩ := ha
    obtain ⟨b, cb, rfl, -, -⟩ := hb
    obtain ⟨L, hL⟩ : ∃ L, L = l.length := ⟨_, rfl⟩
    rw [← hL] at HB HOK ⊢
    generalize (mkM R C f).length = M at *
    clear h h' hw hcells hAG HLN HF hs hI hL
    go_enter Tryz.func10, Tryz.ntmps10
    go_wp2_with (first | (go_at_call 26; refine HOK.out.mono ?_; rintro e w1 ⟨rfl, b1⟩; have B1 := hide b1; clear b1) | (go_at_call 28; refine (HCH.out _ B1.out).mono ?_; rintro e w2 ⟨u2, rfl, ho, hb2⟩; have HO2 := hide ho; have B2 := hide (B1.out.trans (hb2.mono B1.out.size)); obtain ⟨ua, uc, rfl⟩ := ownCS_form ho; clear ho hb2))
    refine (agreeing_any _ _ s l _ _ HO2.out (inRow_below HB.out B2.out) HLEN.out HRG.out HL25.out).mono ?_
    rintro e w3 ⟨u3, rfl, ho, hb3⟩
    have B3 := hide (B2.out.trans (hb3.mono B2.out.size))
    obtain ⟨xa, xc, rfl⟩ := ownCS_form ho
    clear ho hb3
    go_wp2
    go_ret
    exact ⟨rfl, B3.out⟩
set_option maxHeartbeats 1000000 in
theorem implIsEnough_any (va vb : Value) (m : List (List Int)) (l : List Int) (w : World) (ha : InMat w va m) (hb : InRow w vb l) :
    Calls Tryz.prog 14 #[va, vb] w fun e w' => e = .returned (.bool (cntAg m l == 1)) ∧ Below w.heap.size w w' := by
  have HC := hide (implCountAg_any va vb m l w ha hb)
  obtain ⟨n, hn⟩ : ∃ n, n = cntAg m l := ⟨_, rfl⟩
  rw [← hn] at HC ⊢
  obtain ⟨a, ca, rfl, -, -⟩ := ha
  obtain ⟨b, cb, rfl, -, -⟩ := hb
  generalize m.length = M at *
  generalize l.length = L at *
  clear hn
  go_enter Tryz.func14, Tryz.ntmps14
  go_wp2_with fail
  refine HC.out.mono ?_
  rintro e w1 ⟨rfl, b1⟩
  have B1 := hide b1
  clear b1
  go_wp2
  go_ret
  exact ⟨by first | rfl | exact ret_bool (by rw [Bool.eq_iff_iff]; simp), B1.out⟩
end Go.Proofs.YtjnnoabaepmcnaaGreat
/-
  leastEnough of the program.
-/
namespace Go.Proofs.YtjnnoabaepmcnaaGreat
open Go.RowKit Go.Shelf

/-- The call answers a list of its own and whether there is one. -/
def LrRes (o : Option (List Int)) (w : World) (e : Ending) (w' : World) : Prop := ∃ u, e = .returned (.tuple #[u, .bool o.isSome]) ∧ w'.ownsRow w.heap.size 3 1 u (o.getD []).length (ints (o.getD [])) ∧ Below w.heap.size w w'
theorem one_in (w : World) (k : Int) : InRow (w.alloc (.cells #[.int .i64 k] 3)) (.slice (some ⟨w.heap.size, 0, none⟩) 1 1) [k] := by
  have h0 : (w.alloc (.cells #[.int .i64 k] 3)).heap[w.heap.size]? = some (.cells #[.int .i64 k] 3 (0, 0)) := heap_alloc_new w _
  refine ⟨_, 1, rfl, by unfold maxLen; simp, .inr ⟨w.heap.size, 0, rfl, by simp, fun i hi => ?_⟩⟩
  have hi2 : i < 1 := hi
  match i, hi2 with
  | 0, _ => rw [cell_of_row _ _ _ _ _ _ h0]; rfl
theorem srchP_miss {N n first : Nat} {s : List Int} (h : ∀ t, first ≤ t → t < N → srchP N n (agS s [(t : Int)]) (t + 1) = none) : srchP N (n + 1) s first = none := by
  unfold srchP
  refine goS_miss fun t h1 h2 => ?_
  rw [h t h1 (by omega)]; rfl
theorem srchP_hit {N n first k : Nat} {s o : List Int} (hk : first ≤ k) (hN : k < N) (h : ∀ t, first ≤ t → t < k → srchP N n (agS s [(t : Int)]) (t + 1) = none) (ho : srchP N n (agS s [(k : Int)]) (k + 1) = some o) : srchP N (n + 1) s first = some ((k : Int) :: o) := by
  unfold srchP
  refine goS_hit (j := k - first) (by omega) (fun t h1 h2 => ?_) ?_
  · rw [h t h1 (by omega)]; rfl
  · rw [show first + (k - first) = k by omega, ho]; rfl
theorem agS_sub (s l : List Int) : (agS s l).length ≤ s.length ∧ ∀ x ∈ agS s l, x ∈ s := ⟨List.length_filter_le _ _, fun _ hx => (List.mem_filter.1 hx).1⟩
set_option maxRecDepth 100000 in
set_option maxHeartbeats 4000000 in
theorem leastEnough_any (N : Nat) (hN : N ≤ 25) : ∀ (n : Nat) (s : List Int) (first lo : Nat) (v : Value) (w : World), OwnCS w lo v s → s.length ≤ 2000000 → (∀ x ∈ s, 0 ≤ x ∧ x < 33554432) → first ≤ 30 → n ≤ 30 →
    Calls Tryz.prog 32 #[v, .int .i64 first, .int .i64 N, .int .i64 n] w (LrRes (srchP N n s first) w) := by
  intro n
  induction n with
  | zero =>
    intro s first lo v w ho hn hs hf _
    obtain ⟨a, c, rfl⟩ := own_slice (show w.ownsRow lo 49 1 v s.length (ints s) from ho)
    by_cases h : s.length = 1
    · have HE : Hid (srchP N 0 s first = some []) := hide (by unfold srchP; rw [if_pos h])
      rw [HE.out, h]
      clear ho hn hs h HE
      go_enter Tryz.func32, Tryz.ntmps32
      go_wp2
      exact bodyPost_ret (results_tmp2 rfl _ _ _) rfl ⟨_, rfl, World.ownsRow_nil _ _ _ _, Below.refl _ _⟩
    · have HE : Hid (srchP N 0 s first = none) := hide (by unfold srchP; rw [if_neg h])
      rw [HE.out]
      have hbeq : ((s.length : Int) == 1) = false := beq_eq_false_iff_ne.2 (by omega)
      obtain ⟨L, hL⟩ : ∃ L, L = s.length := ⟨_, rfl⟩
      rw [← hL] at h hn hbeq ⊢
      have hI : ¬ (L : Int) = 1 := by omega
      clear ho hs HE hL
      go_enter Tryz.func32, Tryz.ntmps32
      go_wp2
      exact bodyPost_ret (results_tmp2 rfl _ _ _) rfl ⟨_, rfl, World.ownsRow_nil _ _ _ _, Below.refl _ _⟩
  | succ n ih =>
    intro s first lo v w ho hn hs hf hn30
    have HO := hide ho; have HS := hide hs; have HN := hide hn
    have HIH := hide ih
    obtain ⟨a, c, rfl⟩ := own_slice (show w.ownsRow lo 49 1 v s.length (ints s) from ho)
    have HMISS := hide fun h => srchP_miss (N := N) (n := n) (first := first) (s := s) h
    have HHIT := hide fun k o h1 h2 h3 h4 => srchP_hit (N := N) (n := n) (first := first) (s := s) (k := k) (o := o) h1 h2 h3 h4
    obtain ⟨L, hL⟩ : ∃ L, L = s.length := ⟨_, rfl⟩
    obtain ⟨Rs, hRs⟩ : ∃ Rs, Rs = srchP N (n + 1) s first := ⟨_, rfl⟩
    rw [← hRs] at HMISS HHIT ⊢
    rw [← hL] at HO ⊢
    obtain ⟨M, hM⟩ : ∃ M, M = n + 1 := ⟨_, rfl⟩
    rw [← hM]
    have hMb : ((M : Int) == 0) = false := beq_eq_false_iff_ne.2 (by omega)
    have hMn : (M : Int) - 1 = (n : Int) := by omega
    have hM30 : M ≤ 30 := by omega
    clear ho hn hs ih hL hRs hM
    go_enter Tryz.func32, Tryz.ntmps32
    go_wp2
    go_loopw [10, 11, 12] (fun i _ _ w' => ∃ k : Nat, first ≤ k ∧ k ≤ 31 ∧ i = .int .i64 k ∧ (∀ t, first ≤ t → t < k → t < N → srchP N n (agS s [(t : Int)]) (t + 1) = none) ∧ Below w.heap.size w w') (fun i _ _ _ => 31 - (intOf i).toNat)
    case atStart => exact ⟨first, Nat.le_refl _, by omega, rfl, fun t h1 h2 _ => by omega, Below.refl _ _⟩
    case round =>
      obtain ⟨k, hk, hk31, rfl, hall, hb⟩ := hrel
      have HA := hide hall; have HB := hide hb
      clear hall hb
      by_cases hlt : k < N
      · have hltI : (k : Int) < N := by omega
        obtain ⟨w1, hw1⟩ : ∃ w1, w1 = wr.alloc (.cells #[.int .i64 k] 3) := ⟨_, rfl⟩
        have B1 := hide (show Below w.heap.size w w1 by rw [hw1]; exact HB.out.alloc HB.out.size _)
        have HIN := hide (show InRow w1 (.slice (some ⟨wr.heap.size, 0, none⟩) 1 1) [(k : Int)] by rw [hw1]; exact one_in wr k)
        have HAG := hide (agreeing_any (.slice a L c) _ s [(k : Int)] lo w1 (ownCS_below HO.out B1.out) HIN.out HN.out HS.out (fun x hx => by rw [List.mem_singleton.1 hx]; omega))
        have HSUB := hide (agS_sub s [(k : Int)])
        obtain ⟨s2, hs2⟩ : ∃ s2, s2 = agS s [(k : Int)] := ⟨_, rfl⟩
        have HS2 := hide hs2
        rw [← hs2] at HAG HSUB
        clear hs2 HIN
        go_wp2_with fail
        rw [← hw1]
        clear hw1
        refine HAG.out.mono ?_
        rintro e w2 ⟨u2, rfl, ho2, hb2⟩
        have HO2 := hide ho2
        have B2 := hide (B1.out.trans (hb2.mono B1.out.size))
        obtain ⟨a2, c2, rfl⟩ := ownCS_form ho2
        clear ho2 hb2
        go_wp2_with fail
        refine (HIH.out s2 (k + 1) _ _ w2 HO2.out (by have := HSUB.out.1; have := HN.out; omega) (fun x hx => HS.out x (HSUB.out.2 x hx)) (by omega) (by omega)).mono ?_
        obtain ⟨o, hoe⟩ : ∃ o, o = srchP N n s2 (k + 1) := ⟨_, rfl⟩
        have HOE := hide hoe
        rw [← hoe]
        clear hoe
        rintro e w3 ⟨u3, rfl, ho3, hb3⟩
        have HO3 := hide ho3
        have B3 := hide (B2.out.trans (hb3.mono B2.out.size))
        obtain ⟨a3, c3, rfl⟩ := own_slice ho3
        clear ho3 hb3
        cases o with
        | some o =>
          have HHE := hide (HHIT.out k o hk hlt (fun t h1 h2 => HA.out t h1 h2 (by omega)) (by rw [← HS2.out]; exact HOE.out.symm))
          rw [show (some o).getD [] = o from rfl] at HO3 ⊢
          have hsz := B3.out.size
          have HX : Hid ((w3.alloc (.cells #[.int .i64 (k : Int)] 3)).ownsRow w.heap.size 3 1 (.slice (some ⟨w3.heap.size, 0, none⟩) 1 1) 1 [.int .i64 (k : Int)]) := hide (World.ownsRow_lit w3 #[.int .i64 (k : Int)] 1 hsz (by decide) rfl)
          have HX2 : Hid ((w3.alloc (.cells #[.int .i64 (k : Int)] 3)).ownsRow w2.heap.size 3 1 (.slice a3 o.length c3) o.length (ints o)) := hide (own_below HO3.out ((Below.refl _ w3).alloc (Nat.le_refl _) _))
          have B4 := hide (B3.out.alloc hsz (.cells #[.int .i64 (k : Int)] 3))
          have hol : 1 + o.length < 4000000 := by
            have := srchP_len n s2 (k + 1) o HOE.out.symm
            omega
          clear HO3
          go_wp2_with (refine wpList_appendOwn 41 rfl HX.out o HX2.out (.int .i64 0) rfl _ _ rfl Tryz.underlying23 Tryz.infoInt rfl (by decide) rfl rfl hol B4.out.size ?_; intro u5 w5 hu5 hb5 hg5; have HU5 := hide hu5; have B5 := hide (B4.out.trans hb5); clear hu5 hb5 hg5)
          refine bodyPost_ret (results_tmp2 rfl _ _ _) rfl ?_
          rw [HHE.out]
          refine ⟨_, rfl, ?_, B5.out⟩
          have := HU5.out
          rw [Nat.add_comm] at this
          exact this
        | none =>
          go_wp2
          go_roundw
          case rel => exact ⟨k + 1, by omega, by omega, by go_num, fun t h1 h2 h3 => by
            by_cases e : t = k
            · subst e; rw [← HS2.out]; exact HOE.out.symm
            · exact HA.out t h1 (by omega) h3, B3.out⟩
          case measure => simp [intOf]; omega
      · have HE := hide (HMISS.out fun t h1 h2 => HA.out t h1 (by omega) h2)
        go_wp2
        refine bodyPost_ret (results_tmp2 rfl _ _ _) rfl ?_
        rw [HE.out]
        exact ⟨_, rfl, World.ownsRow_nil _ _ _ _, HB.out⟩
end Go.Proofs.YtjnnoabaepmcnaaGreat
/-
  LeastReveal of the program.
-/
namespace Go.Proofs.YtjnnoabaepmcnaaGreat
open Go.RowKit Go.Shelf

def csF (B : Nat) (s : List Int) : FactP := fun u w2 => OwnCS w2 B u s
theorem agS_nil (s : List Int) : agS s [] = s := by
  unfold agS
  rw [List.filter_eq_self]
  intro x _; rfl
theorem srch_start {R C : Nat} (f : Nat → Nat → Int) (n : Nat) : srch (enB R C f) (R * C) n [] 0 = srchP (R * C) n (chgs R C f) 0 := by
  rw [srch_eq (s0 := chgs R C f) (fun d hd => en_chgs d hd) n [] 0 (fun k hk => by cases hk), agS_nil]
  cases srchP (R * C) n (chgs R C f) 0 <;> simp
theorem leastR_hit {R C : Nat} {f : Nat → Nat → Int} {n : Nat} {o : List Int} (hn : n < R * C) (h : ∀ t, t < n → srchP (R * C) t (chgs R C f) 0 = none) (ho : srchP (R * C) n (chgs R C f) 0 = some o) : leastR R C f = some o := by
  unfold leastR
  refine goS_hit (j := n) hn (fun t _ h2 => ?_) ?_
  · rw [srch_start]; exact h t (by omega)
  · rw [Nat.zero_add, srch_start]; exact ho
theorem leastR_all {R C : Nat} {f : Nat → Nat → Int} (hI : Img R C f) (h : ∀ t, t < R * C → srchP (R * C) t (chgs R C f) 0 = none) : False := by
  obtain ⟨o, ho⟩ := leastR_some hI
  unfold leastR at ho
  rw [goS_miss fun t _ h2 => by rw [srch_start]; exact h t (by omega)] at ho
  cases ho
theorem leastR_congr {R C : Nat} {f g : Nat → Nat → Int} (hC : 0 < C) (h : ∀ y x, y < R → x < C → f y x = g y x) : leastR R C f = leastR R C g := by
  have e0 : simL R C f = simL R C g := by
    unfold simL
    rw [rowsL_congr h, rowsL_congr (R := C) (C := R) (f := trM f) (g := trM g) fun y x hy hx => h x y hx hy]
  have e1 : chgs R C f = chgs R C g := by
    unfold chgs
    rw [e0]
    refine List.map_congr_left fun o _ => ?_
    have key : ∀ n, n ≤ R * C → setN (dfB C f (cellM o)) n = setN (dfB C g (cellM o)) n := fun n => by
      induction n with
      | zero => intro _; rfl
      | succ n ih =>
        intro hn
        rw [setN, setN, ih (by omega)]
        have : dfB C f (cellM o) n = dfB C g (cellM o) n := by
          unfold dfB
          rw [h (n / C) (n % C) (Nat.div_lt_of_lt_mul (by rw [Nat.mul_comm]; omega)) (Nat.mod_lt _ hC)]
        rw [this]
    unfold chgN
    rw [key _ (Nat.le_refl _)]
  unfold leastR
  congr 1
  funext n
  rw [srch_start, srch_start, e1]
theorem lr_yes {R C : Nat} {f : Nat → Nat → Int} {o : List Int} (hI : Img R C f) (hR : R ≤ 3) (hC : C ≤ 4) (h : leastR R C f = some o) (hok : okB (mkM R C f) = true) : lrL (mkM R C f) = o ∧ lrB (mkM R C f) = true := by
  have hR1 := hI.r1; have hC1 := hI.c1
  have hb : lrB (mkM R C f) = true := by
    unfold lrB
    rw [hok, mkM_len, width_mkM hR1, decide_eq_true hR, decide_eq_true hC]; rfl
  refine ⟨?_, hb⟩
  unfold lrL
  rw [if_pos hb, mkM_len, width_mkM hR1, leastR_congr (g := f) (by omega) fun y x hy hx => cell_mk R C f hy hx, h]; rfl
theorem lr_no {m : List (List Int)} (h : lrB m = false) : lrL m = [] := by
  unfold lrL
  rw [if_neg (by rw [h]; decide)]
/-- What LeastReveal answers. -/
def LrAns (m : List (List Int)) (w : World) (e : Ending) (w' : World) : Prop := ∃ u, e = .returned (.tuple #[u, .bool (lrB m)]) ∧ w'.ownsRow w.heap.size 3 1 u (lrL m).length (ints (lrL m)) ∧ Below w.heap.size w w'
theorem lrAns_no {m : List (List Int)} {w w' : World} (h : lrB m = false) (hb : Below w.heap.size w w') : LrAns m w (.returned (.tuple #[.slice none 0 0, .bool false])) w' := by
  refine ⟨_, by rw [h], ?_, hb⟩
  rw [lr_no h]
  exact World.ownsRow_nil _ _ _ _
set_option maxRecDepth 100000 in
set_option maxHeartbeats 4000000 in
theorem implLeastReveal_any (v : Value) (m : List (List Int)) (w : World) (hin : InMat w v m) :
    Calls Tryz.prog 16 #[v] w (LrAns m w) := by
  have HOK := hide (implImageOk_any v m w hin)
  cases h : okB m with
  | false =>
    rw [h] at HOK
    have HF : Hid (lrB m = false) := hide (by unfold lrB; rw [h]; rfl)
    obtain ⟨a, ca, rfl, -, -⟩ := hin
    obtain ⟨M, hM⟩ : ∃ M, M = m.length := ⟨_, rfl⟩
    rw [← hM] at HOK ⊢
    clear h hM
    go_enter Tryz.func16, Tryz.ntmps16
    go_wp2_with (go_at_call 31; refine HOK.out.mono ?_; rintro e w1 ⟨rfl, rfl⟩)
    exact bodyPost_ret (results_tmp2 rfl _ _ _) rfl (lrAns_no HF.out (Below.refl _ _))
  | true =>
    rw [h] at HOK
    obtain ⟨R, C, f, rfl, hI⟩ := ok_img h
    have HOB := hide h
    have hR1 := hI.r1; have hC1 := hI.c1; have hR5 := hI.r2; have hC5 := hI.c2
    obtain ⟨gm, om, cm, rfl, hgm, hra⟩ := inMat_img hin (by omega) (by omega)
    obtain ⟨g0, o0, k0, hc0, -, -⟩ := hra 0 (by omega)
    rw [Nat.add_zero] at hc0
    have hRp : (0 : Int) < R := by omega
    obtain ⟨mm, hmm⟩ : ∃ mm, mm = mkM R C f := ⟨_, rfl⟩
    have HMM := hide hmm
    rw [← hmm]
    by_cases hR3 : 3 < R
    · have HF : Hid (lrB mm = false) := hide (by unfold lrB; rw [HMM.out, mkM_len, decide_eq_false (show ¬ R ≤ 3 by omega), Bool.and_false, Bool.false_and])
      have hR3I : (3 : Int) < R := by omega
      clear h hI hra hmm hin
      go_enter Tryz.func16, Tryz.ntmps16
      go_wp2_with (go_at_call 31; refine HOK.out.mono ?_; rintro e w1 ⟨rfl, rfl⟩)
      exact bodyPost_ret (results_tmp2 rfl _ _ _) rfl (lrAns_no HF.out (Below.refl _ _))
    · have hR3I : (R : Int) ≤ 3 := by omega
      by_cases hC4 : 4 < C
      · have HF : Hid (lrB mm = false) := hide (by unfold lrB; rw [HMM.out, mkM_len, width_mkM hR1, decide_eq_false (show ¬ C ≤ 4 by omega), Bool.and_false])
        have hC4I : (4 : Int) < C := by omega
        clear h hI hra hmm hin
        go_enter Tryz.func16, Tryz.ntmps16
        go_wp2_with (go_at_call 31; refine HOK.out.mono ?_; rintro e w1 ⟨rfl, rfl⟩)
        exact bodyPost_ret (results_tmp2 rfl _ _ _) rfl (lrAns_no HF.out (Below.refl _ _))
      · have hC4I : (C : Int) ≤ 4 := by omega
        obtain ⟨N, hNe⟩ : ∃ N, N = R * C := ⟨_, rfl⟩
        have hN12 : N ≤ 12 := by rw [hNe]; exact Nat.le_trans (Nat.mul_le_mul (show R ≤ 3 by omega) (show C ≤ 4 by omega)) (by decide)
        have hmul : (R : Int) * (C : Int) = (N : Int) := by rw [hNe]; simp
        have HHIT := hide fun n o h1 h2 h3 => lr_yes hI (by omega) (by omega) (leastR_hit (R := R) (C := C) (f := f) (n := n) (o := o) h1 h2 h3) HOB.out
        have HSOME := hide fun h => leastR_all hI h
        have HSL := hide (show (chgs R C f).length ≤ 2000000 by
          have := simL_len R C f ⟨hR1, hR5⟩ ⟨hC1, hC5⟩
          unfold chgs; rw [List.length_map]; omega)
        have HSR := hide (chgs_range (f := f) hR5 hC5)
        obtain ⟨w1, hw1⟩ : ∃ w1, w1 = w := ⟨_, rfl⟩
        have B1 := hide (show Below w.heap.size w w1 by rw [hw1]; exact Below.refl _ _)
        have HCH := hide fun (w2 : World) (hb : Below w1.heap.size w1 w2) => changesOf_any (.slice (some ⟨gm, om, none⟩) R cm) R C f w2 (inMat_below (by rw [hw1]; exact hin) hb) hI
        have HGM := hide (show gm < w1.heap.size by rw [hw1]; exact hgm)
        have HC0 := hide (show w1.cell? ⟨gm, om, none⟩ = some (.slice (some ⟨g0, o0, none⟩) C k0) by rw [hw1]; exact hc0)
        obtain ⟨s, hs⟩ : ∃ s, s = chgs R C f := ⟨_, rfl⟩
        rw [← hs, ← hNe] at HHIT HSOME
        rw [← hmm] at HHIT
        rw [← hs] at HSL HSR HCH
        clear h hI hra hmm hin hs hNe hgm
        go_enter Tryz.func16, Tryz.ntmps16
        go_wp2_with (go_at_call 31; refine HOK.out.mono ?_; rintro e w1 ⟨rfl, rfl⟩)
        have HW1 := hide hw1
        have hc0 := HC0.out
        rw [← hw1]
        clear hw1 hc0
        obtain ⟨fs, hfs⟩ : ∃ fs : List FactP, fs = [(isV (.slice (some ⟨gm, om, none⟩) R cm)), (csF w1.heap.size s), (isV (.slice (some ⟨gm, om, none⟩) R cm)), (isV (.int .i64 R)), (isV (.slice (some ⟨gm, om, none⟩) R cm)), (isV (.pointer (some ⟨gm, om, none⟩))), (isV (.slice (some ⟨g0, o0, none⟩) C k0)), (isV (.int .i64 C)), (isV (.int .i64 N)), (csF w1.heap.size s)] := ⟨_, rfl⟩
        have hst : ∀ f ∈ fs, StableP f := by
          rw [hfs]; intro f hf
          simp only [List.mem_cons, List.not_mem_nil, or_false] at hf
          rcases hf with rfl | rfl | rfl | rfl | rfl | rfl | rfl | rfl | rfl | rfl <;> first | exact stable_v _ | exact fun u w2 w3 hb h => ownCS_below h hb
        subst hfs
        refine wp_region_g (S := fun w2 => Below w1.heap.size w1 w2) [(isV (.slice (some ⟨gm, om, none⟩) R cm)), (csF w1.heap.size s), (isV (.slice (some ⟨gm, om, none⟩) R cm)), (isV (.int .i64 R)), (isV (.slice (some ⟨gm, om, none⟩) R cm)), (isV (.pointer (some ⟨gm, om, none⟩))), (isV (.slice (some ⟨g0, o0, none⟩) C k0)), (isV (.int .i64 C)), (isV (.int .i64 N)), (csF w1.heap.size s)] [(0, .slice (some ⟨gm, om, none⟩) R cm)] _ _ 10 (by kernel_rfl) rfl rfl (by kernel_rfl) (by kernel_rfl) rfl (by kernel_rfl) ?base (below_drew (Below.refl _ _)) ?ob rfl ?fin
        case base =>
          intro t v ht
          simp only [List.lookup_cons, List.lookup_nil] at ht
          repeat' split at ht
          all_goals first | (cases ht; done) | (obtain rfl := Option.some.inj ht; rename_i hh; obtain rfl := eq_of_beq hh; rfl)
        case ob =>
          exact ⟨obg_of rfl (obt_move (.slice (some ⟨gm, om, none⟩) R cm) rfl rfl rfl (srt_b 0 rfl)),
            obg_of rfl (obt_call hst [.slice (some ⟨gm, om, none⟩) R cm] rfl Tryz.func28 (by kernel_rfl) (by kernel_rfl) rfl ⟨(srt_j 0 rfl (by kernel_rfl) rfl), trivial⟩ (fun w2 hS => (HCH.out w2 hS).mono fun e w3 ⟨u, he, ho, hh⟩ => ⟨_, he, hS.trans (hh.mono hS.size), hh, own_base ho hS.size⟩)),
            obg_of rfl (obt_move (.slice (some ⟨gm, om, none⟩) R cm) rfl rfl rfl (srt_b 0 rfl)),
            obg_of rfl (obt_one (.int .i64 R) rfl rfl (srt_j 2 rfl (by kernel_rfl) rfl) (fun ρ w2 hS hx => by go_simp)),
            obg_of rfl (obt_move (.slice (some ⟨gm, om, none⟩) R cm) rfl rfl rfl (srt_b 0 rfl)),
            obg_of rfl (obt_two (.pointer (some ⟨gm, om, none⟩)) rfl rfl (srt_j 4 rfl (by kernel_rfl) rfl) (srt_c (v := .int .i64 0)) (fun ρ w2 hS hx hy => by go_simp)),
            obg_of rfl (obt_one (.slice (some ⟨g0, o0, none⟩) C k0) rfl rfl (srt_j 5 rfl (by kernel_rfl) rfl) (fun ρ w2 hS hx => by have hc := below_cell hS HGM.out HC0.out; go_simp)),
            obg_of rfl (obt_one (.int .i64 C) rfl rfl (srt_j 6 rfl (by kernel_rfl) rfl) (fun ρ w2 hS hx => by go_simp)),
            obg_of rfl (obt_two (.int .i64 N) rfl rfl (srt_j 3 rfl (by kernel_rfl) rfl) (srt_j 7 rfl (by kernel_rfl) rfl) (fun ρ w2 hS hx hy => by go_simp; rw [IntKind.wrap_i64]; omega)),
            obg_of rfl (obt_any rfl (fun a w2 hS hs hD => ⟨a.tmps.getD 25 undef, exec_assigng rfl rfl, hD 1 25 rfl (by kernel_rfl)⟩)),
            trivial⟩
        case fin =>
          intro a' w' h1 h2 h3 hS h4 K hK
          have ha := frame_ov rfl h1 h2 h3 [(24, .slice (some ⟨gm, om, none⟩) R cm), (25, a'.tmps.getD 25 undef), (26, .slice (some ⟨gm, om, none⟩) R cm), (27, .int .i64 R), (28, .slice (some ⟨gm, om, none⟩) R cm), (29, .pointer (some ⟨gm, om, none⟩)), (30, .slice (some ⟨g0, o0, none⟩) C k0), (31, .int .i64 C), (32, .int .i64 N), (4, a'.tmps.getD 4 undef), (5, a'.tmps.getD 5 undef)] (by kernel_rfl) ⟨h4 0 24 rfl (by decide), rfl, h4 2 26 rfl (by decide), h4 3 27 rfl (by decide), h4 4 28 rfl (by decide), h4 5 29 rfl (by decide), h4 6 30 rfl (by decide), h4 7 31 rfl (by decide), h4 8 32 rfl (by decide), rfl, rfl, trivial⟩
          dsimp only [ov, List.lookup, Nat.reduceBEq, Nat.reduceAdd] at ha
          have HCS := hide (h4 9 4 rfl (by decide))
          refine run_value (.int .i64 N) (exec_assigng (v := .int .i64 N) rfl (h4 8 32 rfl (by decide))) (hK (.int .i64 N) _ ?_)
          show Exit.then _ _ Exit.normal (Act.put a' (some 5) (.int .i64 N)) _
          rw [ha]
          generalize a'.tmps.getD 25 undef = u25
          generalize a'.tmps.getD 4 undef = u4 at HCS ⊢
          generalize a'.tmps.getD 5 undef = u5
          clear ha h1 h2 h3 h4 hst hK
          have BW := hide (B1.out.trans (hS.mono B1.out.size))
          have HCS2 : OwnCS w' w1.heap.size u4 s := HCS.out
          obtain ⟨sa, sc, rfl⟩ := ownCS_form HCS2
          have HO := hide HCS2
          clear HCS2 HCS hS
          go_wp2_with fail
          go_loopw [34, 6, 7, 8] (fun i _ _ _ w2 => ∃ n : Nat, n ≤ N ∧ i = .int .i64 n ∧ (∀ t, t < n → srchP N t s 0 = none) ∧ Below w'.heap.size w' w2) (fun i _ _ _ _ => N - (intOf i).toNat)
          case atStart => exact ⟨0, Nat.zero_le _, rfl, fun t h => absurd h (Nat.not_lt_zero t), Below.refl _ _⟩
          case round =>
            obtain ⟨n, hn, rfl, hall, hb⟩ := hrel
            have HA := hide hall; have HB := hide hb
            clear hall hb
            by_cases hlt : n < N
            · have hltI : (n : Int) < N := by omega
              have HLE := hide (leastEnough_any N (by omega) n s 0 w1.heap.size (.slice sa s.length sc) wr (ownCS_below HO.out HB.out) HSL.out HSR.out (by omega) (by omega))
              obtain ⟨o, hoe⟩ : ∃ o, o = srchP N n s 0 := ⟨_, rfl⟩
              have HOE := hide hoe
              rw [← hoe] at HLE
              clear hoe
              go_wp2_with fail
              refine HLE.out.mono ?_
              rintro e w3 ⟨u3, rfl, ho3, hb3⟩
              have HO3 := hide ho3
              have B3 := hide (HB.out.trans (hb3.mono HB.out.size))
              have HWR := hide (Nat.le_trans BW.out.size HB.out.size)
              obtain ⟨a3, c3, rfl⟩ := own_slice ho3
              clear ho3 hb3
              cases o with
              | some o =>
                have HHE := hide (HHIT.out n o hlt HA.out HOE.out.symm)
                go_wp2
                refine bodyPost_ret (results_tmp2 rfl _ _ _) rfl ?_
                unfold LrAns
                rw [HHE.out.1, HHE.out.2]
                exact ⟨_, rfl, own_base HO3.out HWR.out, BW.out.trans (B3.out.mono BW.out.size)⟩
              | none =>
                go_wp2
                go_roundw
                case rel => exact ⟨n + 1, by omega, by go_num, fun t h => by
                  by_cases e : t = n
                  · subst e; exact HOE.out.symm
                  · exact HA.out t (by omega), B3.out⟩
                case measure => simp [intOf]; omega
            · exfalso
              obtain rfl : n = N := by omega
              exact HSOME.out HA.out
end Go.Proofs.YtjnnoabaepmcnaaGreat
/-
  CountAgreeing and IsEnough of the model.
-/
namespace Go.Proofs.YtjnnoabaepmcnaaGreat
open Go.RowKit Go.Shelf

set_option maxHeartbeats 1000000 in
theorem l12Ok_any (va vb : Value) (m : List (List Int)) (l : List Int) (w : World) (ha : InMat w va m) (hb : InRow w vb l) :
    Calls Tryz.prog 21 #[va, vb] w fun e w' => e = .returned (.bool (revB m l)) ∧ Below w.heap.size w w' := by
  have HOK := hide (specImageOk_any va m w ha)
  cases h : okB m with
  | false =>
    rw [h] at HOK
    have HF : Hid (revB m l = false) := hide (by rw [revB, h, Bool.false_and])
    rw [HF.out]
    obtain ⟨a, ca, rfl, -, -⟩ := ha
    obtain ⟨b, cb, rfl, -, -⟩ := hb
    generalize m.length = M at *
    generalize l.length = L at *
    clear h HF
    go_enter Tryz.func21, Tryz.ntmps21
    go_wp2_with (go_at_call 29; refine HOK.out.mono ?_; rintro e w1 ⟨rfl, rfl⟩)
    go_ret
    exact ⟨rfl, Below.refl _ _⟩
  | true =>
    rw [h] at HOK
    obtain ⟨R, C, f, rfl, hI⟩ := ok_img h
    have hR1 := hI.r1; have hC1 := hI.c1; have hR := hI.r2; have hC := hI.c2
    have hRC : R * C ≤ 5 * 5 := Nat.mul_le_mul hR hC
    obtain ⟨n, hn⟩ : ∃ n, n = R * C := ⟨_, rfl⟩
    have HF : Hid (revB (mkM R C f) l = ascB (n : Nat) l) := hide (by rw [revB, h, Bool.true_and, mkM_len, width_mkM hR1, hn])
    rw [HF.out]
    have hmul : (R : Int) * (C : Int) = (n : Int) := by rw [hn]; simp
    rw [← hn] at hRC
    have HAS := hide (list25_any vb l n w (by omega) hb)
    obtain ⟨q, hq⟩ : ∃ q, q = ascB (n : Nat) l := ⟨_, rfl⟩
    rw [← hq] at HAS ⊢
    obtain ⟨ga, oa, ca, rfl, hga, hra⟩ := inMat_img ha (by omega) (by omega)
    obtain ⟨g0, o0, c0, hx0, -⟩ := hra 0 (by omega)
    rw [Nat.add_zero] at hx0
    obtain ⟨b, cb, rfl, -, -⟩ := hb
    generalize l.length = L at *
    have hRp : (0 : Int) < R := by omega
    clear h HF hra hI hn hq ha
    go_enter Tryz.func21, Tryz.ntmps21
    go_wp2_with (first | (go_at_call 29; refine HOK.out.mono ?_; rintro e w1 ⟨rfl, rfl⟩) | (go_at_call 33; refine HAS.out.mono ?_; rintro e w1 ⟨rfl, rfl⟩))
    go_ret
    exact ⟨rfl, Below.refl _ _⟩
set_option maxRecDepth 100000 in
set_option maxHeartbeats 4000000 in
theorem l12Agrees_any (va vb vc : Value) (R C : Nat) (f g : Nat → Nat → Int) (l : List Int) (w : World) (ha : InMat w va (mkM R C f)) (hb : InMat w vb (mkM R C g)) (hc : InRow w vc l) (hR : 1 ≤ R ∧ R ≤ 5) (hC : 1 ≤ C ∧ C ≤ 5) (hl : ∀ k ∈ l, 0 ≤ k ∧ k < (R * C : Nat)) :
    Calls Tryz.prog 38 #[va, vb, vc] w fun e w' => e = .returned (.bool (agB C f g l)) ∧ Below w.heap.size w w' := by
  obtain ⟨hR1, hR5⟩ := hR
  obtain ⟨hC1, hC5⟩ := hC
  obtain ⟨ga, oa, ca, rfl, hga, hra⟩ := inMat_img ha (by omega) (by omega)
  obtain ⟨gb, ob, cb, rfl, hgb, hrb⟩ := inMat_img hb (by omega) (by omega)
  obtain ⟨gc, cc, rfl, hm, hp⟩ := hc
  unfold maxLen at hm
  have HRA := hide hra; have HRB := hide hrb; have HL := hide hl; have HP := hide hp
  obtain ⟨n, hn⟩ : ∃ n, n = l.length := ⟨_, rfl⟩
  have HN := hide hn
  rw [← hn] at hm ⊢
  clear ha hb hra hrb hl hp hn
  go_enter Tryz.func38, Tryz.ntmps38
  go_wp2
  go_loopw [11] (fun i w' => ∃ k : Nat, k ≤ n ∧ i = .int .i64 k ∧ agB C f g (l.take k) = true ∧ Below w.heap.size w w') (fun i _ => n - (intOf i).toNat)
  case atStart => exact ⟨0, Nat.zero_le _, rfl, rfl, Below.refl _ _⟩
  case round =>
    obtain ⟨k, hk, rfl, hall, hbo⟩ := hrel
    have HA := hide hall; have HB := hide hbo
    clear hall hbo
    by_cases hlt : k < n
    · have hltI : (k : Int) < n := by omega
      have hkl : k < l.length := by rw [← HN.out]; exact hlt
      obtain ⟨gl, ol, rfl, hgl, hcl⟩ := HP.out.resolve_left (by omega)
      have hx := below_cell HB.out hgl (hcl k hkl)
      have hrange := HL.out _ (List.getElem_mem hkl)
      have HSN : Hid (agB C f g (l.take (k + 1)) = !dfB C f g (l[k]).toNat) := hide (by
        have := HA.out
        unfold agB at this ⊢
        rw [List.take_succ_eq_append_getElem hkl, List.all_append, this]
        simp)
      have HNO : Hid (dfB C f g (l[k]).toNat = true → agB C f g l = false) := hide fun h => by
        unfold agB
        rw [List.all_eq_false]
        exact ⟨l[k], List.getElem_mem hkl, by simp [h]⟩
      obtain ⟨z, hz⟩ : ∃ z, z = l[k] := ⟨_, rfl⟩
      rw [← hz] at hx hrange HSN HNO
      obtain ⟨K, rfl⟩ : ∃ K : Nat, z = K := ⟨z.toNat, by omega⟩
      rw [Int.toNat_natCast] at HSN HNO
      unfold dfB at HSN HNO
      have hY : K / C < R := Nat.div_lt_of_lt_mul (by rw [Nat.mul_comm]; omega)
      have hX : K % C < C := Nat.mod_lt _ (by omega)
      have hq : (K : Int) / (C : Int) = ((K / C : Nat) : Int) := by simp
      have hr : (K : Int) % (C : Int) = ((K % C : Nat) : Int) := by simp
      have hK25 : K < 25 := Nat.lt_of_lt_of_le (show K < R * C by omega) (Nat.mul_le_mul hR5 hC5)
      obtain ⟨Y, hYe⟩ : ∃ Y, Y = K / C := ⟨_, rfl⟩
      obtain ⟨X, hXe⟩ : ∃ X, X = K % C := ⟨_, rfl⟩
      rw [← hYe] at hY hq HSN HNO
      rw [← hXe] at hX hr HSN HNO
      obtain ⟨g1, o1, k1, hy1, hg1, hc1⟩ := HRA.out Y hY
      obtain ⟨g2, o2, k2, hy2, hg2, hc2⟩ := HRB.out Y hY
      obtain ⟨g3, o3, k3, hy3, hg3, -⟩ := HRA.out 0 (by omega)
      rw [Nat.add_zero] at hy3
      have hy1 := below_cell HB.out hga hy1
      have hy2 := below_cell HB.out hgb hy2
      have hy3 := below_cell HB.out hga hy3
      have hv1 := below_cell HB.out hg1 (hc1 X hX)
      have hv2 := below_cell HB.out hg2 (hc2 X hX)
      obtain ⟨fv, hfv⟩ : ∃ fv, fv = f Y X := ⟨_, rfl⟩
      obtain ⟨gv, hgv⟩ : ∃ gv, gv = g Y X := ⟨_, rfl⟩
      rw [← hfv] at hv1 HSN HNO
      rw [← hgv] at hv2 HSN HNO
      have hCp : (0 : Int) < C := by omega
      have hC0 : ¬ (C : Int) = 0 := by omega
      have hYI : (Y : Int) < R := by omega
      have hXI : (X : Int) < C := by omega
      have hRp : (0 : Int) < R := by omega
      clear hcl hz hrange hYe hXe hc1 hc2 hfv hgv
      by_cases e : fv = gv
      · have HT : Hid (agB C f g (l.take (k + 1)) = true) := hide (by rw [HSN.out, e, bne_self_eq_false]; rfl)
        subst e
        clear HSN HNO
        go_wp2_with fail
        go_quiet (fail)
        go_wp2
        go_roundw
        case rel => exact ⟨k + 1, by omega, by go_num, HT.out, below_draws HB.out _⟩
        case measure => simp [intOf]; omega
      · have HF : Hid (agB C f g l = false) := hide (HNO.out (bne_iff_ne.2 fun h => e h.symm))
        clear HSN HNO
        go_wp2_with fail
        go_quiet (fail)
        go_wp2
        go_ret
        exact ⟨ret_bool HF.out.symm, below_draws HB.out _⟩
    · obtain rfl : k = n := by omega
      have HT : Hid (agB C f g l = true) := hide (by have := HA.out; rwa [List.take_of_length_le (by rw [← HN.out]; exact Nat.le_refl _)] at this)
      go_wp2
      go_ret
      exact ⟨ret_bool HT.out.symm, HB.out⟩
end Go.Proofs.YtjnnoabaepmcnaaGreat
