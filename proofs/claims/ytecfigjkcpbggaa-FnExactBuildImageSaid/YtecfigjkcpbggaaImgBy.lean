/-
  imageBy of the program: rows continued by a function that calls itself through a variable.
-/
import Derived.Test.YtecfigjkcpbggaaNeed
import Derived.Test.YtecfigjkcpbggaaSubs
import Derived.Test.YtecfigjkcpbggaaMatR
import Derived.Laws.OwnMore
import Derived.Great.BuildSlice
import Derived.Shelf.Abstract
namespace Go.Proofs.Ytecfigjkcpbggaa
open Go.RowKit Go.Shelf

/-- A call of a function value that a slot holds. -/
theorem run_callv {P : Program} {Q : Exit → Act → World → Prop} {o : Oper} {a : Act} {w : World} {K : Act → World → Prop} {f : FuncId} {cb : Array Value} {x : Operand} {xs : Array Operand} {ts : Array TypeId} (ho : o.op = .call { callee := .value x, args := xs, argTypes := ts })
    (hx : a.eval x = .func (.func f) #[] cb) (eg : ∀ args w, (callFunc f args).run P w = .ok (.enter f args) w) (args : Array Value) (hxs : xs.map a.eval = args) (h : Calls P f (args ++ cb) w fun e w' => ∃ v, e = .returned v ∧ K (a.put o.dst v) w') : o.wp P a w K Q := by
  subst hxs
  unfold Oper.wp
  simp only [execOp, ho, resolve, hx, Deferred.ofValue]
  simp [invoke, eg, Oper.upon]
  refine Calls.mono h ?_
  rintro e w' ⟨v, rfl, hk⟩
  exact hk

/-- 'append([][]int{row}, rest...)'. -/
theorem exec_consMat {ρ : Operand → Value} {o : Oper} {w : World} {x y : Operand} {b lo0 hi0 lo hi : Nat} {v2 urow : Value} {row : List Int} {m2 : List (List Int)}
    (ho : o.op = .call { callee := .builtin .append, args := #[x, y], argTypes := #[23, 23] }) (hx : ρ x = .slice (some ⟨b, 0, none⟩) 1 1) (hy : ρ y = v2)
    (hown : w.ownsRow b 22 1 (.slice (some ⟨b, 0, none⟩) 1 1) 1 [urow]) (hrow : w.ownsRow lo0 3 1 urow row.length (ints row)) (hrk : ∀ k, urow.ownBlock = some k → k < hi0)
    (hm : OwnMat w lo hi v2 m2) (h1 : lo0 ≤ hi0) (h2 : hi0 ≤ lo) (h3 : hi0 ≤ b) (h4 : hi ≤ w.heap.size) (h5 : m2.length ≤ 1000) (h6 : b < w.heap.size) :
    ∃ v' w', (execOp ρ o).run Try.prog w = .ok (.value v') w' ∧ OwnMat w' lo0 w'.heap.size v' (row :: m2) ∧ w.grownBy w' (some b) := by
  obtain ⟨vs, hv, hvh, hvr, hva⟩ := hm
  have hvl : vs.length = m2.length := by have := hv.1; omega
  obtain ⟨i0, hi0', hz0, hz1, hz2⟩ := info_parts Try.infoInts
  have key : ∃ v' w', (Builtin.append_ #[23, 23] o.type #[.slice (some ⟨b, 0, none⟩) 1 1, v2]).run Try.prog w = .ok v' w' ∧ w'.ownsRow b 22 1 v' (1 + m2.length) ([urow] ++ vs) ∧ w.grownBy w' (some b) := by
    rcases hv.2 with ⟨rfl, h0⟩ | ⟨g, cap, cur, rfl, hbg, hg, hc, hmx, hcs, htk⟩
    · have hvs : vs = [] := List.eq_nil_of_length_eq_zero (by omega)
      refine ⟨_, w, run_append_owned_none (P := Try.prog) w b 23 o.type 22 i0 1 Try.underlying23 hi0' _ 1 [urow] hown, ?_, ⟨rfl, rfl, rfl, Nat.le_refl _, fun _ _ _ => rfl⟩⟩
      rw [hvs, h0]; exact hown
    · obtain ⟨v', w', hr, g1, g2, -⟩ := run_append_own (P := Try.prog) w b 23 o.type 22 i0 (.slice none 0 0) 1 24 Try.underlying23 hi0' hz0 hz1 hz2 rfl (by decide) _ 1 [urow] hown ⟨g, 0, none⟩ m2.length cap vs (by omega) (fun j u hj => by
          rw [addr_add, Nat.zero_add]
          have hj' : j < m2.length := by have := (List.getElem?_eq_some_iff.1 hj).1; omega
          rw [hv.cellAt j (by omega), hj]) (fun u hu => by
          obtain ⟨j, hj, rfl⟩ := List.getElem_of_mem hu
          obtain ⟨q1, -⟩ := hvr j (by omega)
          rw [List.getD_eq_getElem?_getD, List.getElem?_eq_getElem hj, Option.getD_some] at q1
          obtain ⟨a, c, e⟩ := own_slice q1
          rw [e]; rfl) (by unfold maxLen; omega) (by omega) (by omega)
      exact ⟨v', w', hr, g1, g2⟩
  obtain ⟨v', w', hr, g1, g2⟩ := key
  have hsz := g2.size
  have hkeep : ∀ {lo n : Nat} {u : Value} {xs : List Value}, w.ownsRow lo 3 1 u n xs → w'.ownsRow lo 3 1 u n xs := fun {lo n u xs} h => h.kept g2 (by
    have := own_types h hown (by decide)
    simpa [Value.ownBlock] using this)
  refine ⟨v', w', ?_, ⟨urow :: vs, ?_, fun k e => (g1.lt k e).2, fun i h => ?_, fun i j hij hj => ?_⟩, g2⟩
  · unfold execOp
    simp only [ho, resolve, invoke, builtin, Sem.run_bind, Sem.run_pure, Result.andThen_ok, List.map_toArray, List.map_cons, List.map_nil, hx, hy, hr]
  · have := own_base (base' := lo0) g1 (by omega)
    rw [List.length_cons, Nat.add_comm]; exact this
  · cases i with
    | zero => exact ⟨hkeep hrow, fun k hk => by have := hrk k hk; omega⟩
    | succ i =>
      have hi' : i < m2.length := by simpa using h
      obtain ⟨q1, q2⟩ := hvr i hi'
      exact ⟨own_base (hkeep q1) (by omega), fun k hk => by have := q2 k hk; omega⟩
  · cases j with
    | zero => omega
    | succ j =>
      have hj' : j < m2.length := by simpa using hj
      cases i with
      | zero =>
        show urow.ownBlock = none ∨ urow.ownBlock ≠ (vs.getD j undef).ownBlock
        cases hk : urow.ownBlock with
        | none => exact .inl rfl
        | some k =>
          refine .inr fun e => ?_
          have q1 := hrk k hk
          have q2 := ((hvr j hj').1.lt k e.symm).1
          omega
      | succ i => exact hva i j (by omega) hj'

/-- What is asked of the choice of the next row. -/
structure Choice (g : Nat) (ch : List Int → List Int → List Int) (Inv : List Int → List Int → Prop) : Prop where
  enters : ∀ args w, (callFunc g args).run Try.prog w = .ok (.enter g args) w
  calls : ∀ (a : Int) (r c : List Int) (vr vc : Value) (w : World), Inv (a :: r) c → RowC w vr (a :: r) → InRow w vc c → Calls Try.prog g #[vr, vc] w (IntsRes (ch (a :: r) c) w)
  next : ∀ (a : Int) (r c : List Int), Inv (a :: r) c → r.length ≤ 4 ∧ c.length ≤ 5 ∧ (ch (a :: r) c).length = c.length ∧ Inv r (subL c (ch (a :: r) c)) ∧ (∀ x, x < c.length → -1000 ≤ c.getD x 0 ∧ c.getD x 0 ≤ 1000) ∧ ∀ x, x < c.length → -1000 ≤ (ch (a :: r) c).getD x 0 ∧ (ch (a :: r) c).getD x 0 ≤ 1000

/-- A list of one row, made behind B. -/
def oneRow (B : Nat) (u0 : Value) : FactP := fun u w2 => ∃ b, u = .slice (some ⟨b, 0, none⟩) 1 1 ∧ B ≤ b ∧ b < w2.heap.size ∧ w2.ownsRow b 22 1 (.slice (some ⟨b, 0, none⟩) 1 1) 1 [u0]
theorem stable_oneRow (B : Nat) (u0 : Value) : StableP (oneRow B u0) := fun _ _ _ hb h => by
  obtain ⟨b, h1, h2, h3, h4⟩ := h
  exact ⟨b, h1, h2, Nat.lt_of_lt_of_le h3 hb.size, own_below h4 hb⟩
def ownI (B : Nat) (r : List Int) : FactP := fun u w2 => w2.ownsRow B 3 1 u r.length (ints r)
theorem stable_ownI (B : Nat) (r : List Int) : StableP (ownI B r) := fun _ _ _ hb h => own_below h hb
def ownM (B : Nat) (m : List (List Int)) : FactP := fun u w2 => ∃ lo hi, B ≤ lo ∧ hi ≤ w2.heap.size ∧ OwnMat w2 lo hi u m
theorem stable_ownM (B : Nat) (m : List (List Int)) : StableP (ownM B m) := fun _ _ _ hb h => by
  obtain ⟨lo, hi, h1, h2, h3⟩ := h
  exact ⟨lo, hi, h1, Nat.le_trans h2 hb.size, ownMat_below h3 hb⟩
theorem exec_build1 {ρ : Operand → Value} {o : Oper} {w : World} {x : Operand} {a : Option Addr} {n c : Nat} (ho : o.op = .buildSlice 23 1 #[(0, x)]) (hx : ρ x = .slice a n c) :
    (execOp ρ o).run Try.prog w = .ok (.value (.slice (some ⟨w.heap.size, 0, none⟩) 1 1)) (w.alloc (.cells #[.slice a n c] 22)) := by
  unfold execOp
  simp only [ho]
  go_simp

set_option maxHeartbeats 400000 in
theorem imageRec_nil (vr vc : Value) (p1 p2 : Value) (w : World) (hr : InRow w vr []) :
    Calls Try.prog 52 #[vr, vc, p1, p2] w (MatRes [] w) := by
  obtain ⟨a, c, rfl, -, -⟩ := hr
  simp only [List.length_nil]
  go_enter Try.func52, Try.ntmps52
  go_wp2
  go_ret
  exact matRes_nil (Below.refl _ _)
set_option maxRecDepth 100000 in
set_option maxHeartbeats 4000000 in
theorem imageRec_cons (g : Nat) (ch : List Int → List Int → List Int) (Inv : List Int → List Int → Prop) (H : Choice g ch Inv) (x0 : Int) (r c : List Int) (vr vc : Value) (q1 q2 : Nat) (w : World)
    (ih : ∀ (c : List Int) (vr vc : Value) (w : World), Inv r c → RowC w vr r → InRow w vc c → q1 < w.heap.size → q2 < w.heap.size → w.cell? ⟨q1, 0, none⟩ = some (.func (.func g) #[] #[]) → w.cell? ⟨q2, 0, none⟩ = some (.func (.func 52) #[] #[.pointer (some ⟨q1, 0, none⟩), .pointer (some ⟨q2, 0, none⟩)]) →
      Calls Try.prog 52 #[vr, vc, .pointer (some ⟨q1, 0, none⟩), .pointer (some ⟨q2, 0, none⟩)] w (MatRes (imgL ch r c) w))
    (hI : Inv (x0 :: r) c) (hr : RowC w vr (x0 :: r)) (hc : InRow w vc c) (hq1 : q1 < w.heap.size) (hq2 : q2 < w.heap.size) (hv1 : w.cell? ⟨q1, 0, none⟩ = some (.func (.func g) #[] #[])) (hv2 : w.cell? ⟨q2, 0, none⟩ = some (.func (.func 52) #[] #[.pointer (some ⟨q1, 0, none⟩), .pointer (some ⟨q2, 0, none⟩)])) :
    Calls Try.prog 52 #[vr, vc, .pointer (some ⟨q1, 0, none⟩), .pointer (some ⟨q2, 0, none⟩)] w (MatRes (imgL ch (x0 :: r) c) w) := by
  obtain ⟨n1, n2, n3, n4, n5, n6⟩ := H.next x0 r c hI
  have hcall := H.calls x0 r c vr vc w hI hr hc
  have eg := H.enters
  rw [imgL]
  obtain ⟨row, hrow⟩ : ∃ row, row = ch (x0 :: r) c := ⟨_, rfl⟩
  rw [← hrow] at n3 n4 n6 hcall ⊢
  obtain ⟨l, hl⟩ : ∃ l, l = subL c row := ⟨_, rfl⟩
  have HL := hide hl
  rw [← hl] at n4 ⊢
  obtain ⟨M2, hM2⟩ : ∃ M2, M2 = imgL ch r l := ⟨_, rfl⟩
  have HM2 := hide hM2
  have hlen2 : M2.length ≤ 1000 := by rw [hM2, imgL_len]; omega
  have HLEN2 := hide hlen2
  rw [← hM2]
  have HIH := hide ih; have HN4 := hide n4; have HN5 := hide n5; have HN6 := hide n6; have HN3 := hide n3; have HCALL := hide hcall; have HR := hide hr; have HC := hide hc; have HQ1 := hide hq1; have HQ2 := hide hq2; have HV2 := hide hv2; have HV1 := hide hv1; have HN2 := hide n2
  clear ih n1 n2 n3 n4 n5 n6 hcall hrow hl hM2 hI hlen2
  have HT := hr
  obtain ⟨⟨a, cr, he, hm, hp⟩, -⟩ := hr
  obtain ⟨gr, or', rfl, hgr, -⟩ := hp.resolve_left (by simp)
  have hcap : r.length + 1 ≤ cr ∧ cr ≤ maxLen := by
    obtain ⟨-, a2, c2, he2, h2, h3⟩ := HT
    rw [he] at he2; cases he2
    simpa using ⟨h2, h3⟩
  obtain ⟨hcap1, hcap2⟩ := hcap
  subst he
  obtain ⟨at1, hat1⟩ : ∃ at1, at1 = if cr = 1 then some (⟨gr, or', none⟩ : Addr) else some ⟨gr, or' + 1, none⟩ := ⟨_, rfl⟩
  have HAT := hide hat1
  have htail := rowC_tail HT
  rw [← hat1] at htail
  have HTAIL := hide htail
  clear hat1 htail
  obtain ⟨ac, cc, rfl, hmc, -⟩ := hc
  simp only [List.length_cons, Nat.add_sub_cancel] at *
  unfold maxLen at hcap2 hmc hm
  obtain ⟨R, hRR⟩ : ∃ R, R = r.length := ⟨_, rfl⟩
  obtain ⟨C, hCC⟩ : ∃ C, C = c.length := ⟨_, rfl⟩
  have HRR := hide hRR; have HCC := hide hCC
  rw [← hRR] at HR HTAIL HCALL hcap1 hm ⊢
  rw [← hCC] at HC HCALL hmc HN3 HN5 HN6 HN2 ⊢
  clear hp HT hRR hCC hgr
  go_enter Try.func52, Try.ntmps52
  go_wp2_with (go_at_fn g; refine HCALL.out.mono ?_; rintro e w1 ⟨v1, rfl, ho, hb⟩; have HO := hide ho; have HB := hide hb; obtain ⟨ua, uc, rfl⟩ := own_slice ho; clear ho hb)
  have hs1 := HB.out.size
  have HSL : Hid (subL c row = l) := hide HL.out.symm
  obtain ⟨fs, hfs⟩ : ∃ fs : List FactP, fs = [isV (.slice ua row.length uc), oneRow w1.heap.size (.slice ua row.length uc), isV (.func (.func 52) #[] #[.pointer (some ⟨q1, 0, none⟩), .pointer (some ⟨q2, 0, none⟩)]), isV (.slice (some ⟨gr, or', none⟩) (R + 1) cr), isV (.slice at1 R (cr - 1)), isV (.slice ac C cc), isV (.slice ua row.length uc), ownI w1.heap.size l, ownM w1.heap.size M2, ownM w.heap.size (row :: M2)] := ⟨_, rfl⟩
  have hst : ∀ f ∈ fs, StableP f := by
    rw [hfs]; intro f hf
    simp only [List.mem_cons, List.not_mem_nil, or_false] at hf
    rcases hf with rfl | rfl | rfl | rfl | rfl | rfl | rfl | rfl | rfl | rfl <;> first | exact stable_v _ | exact stable_oneRow _ _ | exact stable_ownI _ _ | exact stable_ownM _ _
  subst hfs
  have hS1 : ∀ (w2 w3 : World), Below w1.heap.size w1.drew w2 → Below w2.heap.size w2 w3 → Below w1.heap.size w1.drew w3 := fun w2 w3 h k => h.trans (k.mono h.size)
  refine wp_region_need (S := fun w2 => Below w1.heap.size w1.drew w2) [isV (.slice ua row.length uc), oneRow w1.heap.size (.slice ua row.length uc), isV (.func (.func 52) #[] #[.pointer (some ⟨q1, 0, none⟩), .pointer (some ⟨q2, 0, none⟩)]), isV (.slice (some ⟨gr, or', none⟩) (R + 1) cr), isV (.slice at1 R (cr - 1)), isV (.slice ac C cc), isV (.slice ua row.length uc), ownI w1.heap.size l, ownM w1.heap.size M2, ownM w.heap.size (row :: M2)] [(0, .slice (some ⟨gr, or', none⟩) (R + 1) cr), (1, .slice ac C cc), (3, .pointer (some ⟨q2, 0, none⟩)), (7, .slice ua row.length uc)] _ _ 10 (by kernel_rfl) rfl rfl (by kernel_rfl) (by kernel_rfl) rfl (by kernel_rfl) ?base (Below.refl _ _) ?ob rfl ?fin
  case base =>
    intro t v ht
    simp only [List.lookup_cons, List.lookup_nil] at ht
    repeat' split at ht
    all_goals first | (cases ht; done) | (obtain rfl := Option.some.inj ht; rename_i hh; obtain rfl := eq_of_beq hh; rfl)
  case ob =>
    exact ⟨obn_of (by kernel_rfl) (obt_move (.slice ua row.length uc) rfl rfl rfl (srt_b 7 rfl)),
      obn_of (by kernel_rfl) (obt_make hst rfl fun a w2 hS hs => ⟨_, _, exec_build1 (w := w2) rfl (hs _ _ (srt_j 0 rfl (by kernel_rfl) rfl)), hS1 _ _ hS ((Below.refl _ _).alloc (Nat.le_refl _) _), (Below.refl _ _).alloc (Nat.le_refl _) _,
        ⟨w2.heap.size, rfl, hS.size, by simp, World.ownsRow_lit w2 #[.slice ua row.length uc] 1 (Nat.le_refl _) (by decide) rfl⟩⟩),
      obn_of (by kernel_rfl) (obt_one (.func (.func 52) #[] #[.pointer (some ⟨q1, 0, none⟩), .pointer (some ⟨q2, 0, none⟩)]) rfl rfl (srt_b 3 rfl) (fun ρ w2 hS hx => by
        have hv := below_cell (below_drew (Below.refl _ w1) |>.trans hS) (Nat.lt_of_lt_of_le HQ2.out hs1) (below_cell HB.out HQ2.out HV2.out)
        go_simp)),
      obn_of (by kernel_rfl) (obt_move (.slice (some ⟨gr, or', none⟩) (R + 1) cr) rfl rfl rfl (srt_b 0 rfl)),
      obn_of (by kernel_rfl) (obt_two (.slice at1 R (cr - 1)) rfl rfl (srt_j 3 rfl (by kernel_rfl) rfl) (srt_c (v := .int .i64 1)) (fun ρ w2 hS hx hy => by have hat := HAT.out; go_simp; intro h; omega)),
      obn_of (by kernel_rfl) (obt_move (.slice ac C cc) rfl rfl rfl (srt_b 1 rfl)),
      obn_of (by kernel_rfl) (obt_move (.slice ua row.length uc) rfl rfl rfl (srt_b 7 rfl)),
      obn_of (by kernel_rfl) (obt_call hst [.slice ac C cc, .slice ua row.length uc] rfl Try.func53 (by kernel_rfl) (by kernel_rfl) rfl ⟨srt_j 5 rfl (by kernel_rfl) rfl, srt_j 6 rfl (by kernel_rfl) rfl, trivial⟩ (fun w2 hS => by
        have hb := (below_drew (Below.refl _ w1)).trans hS
        refine (sumsWithout_any _ _ c row w2 (inRow_below HC.out (HB.out.trans (hb.mono hs1))) (inRow_below (inRow_own HO.out) hb) (by rw [HN3.out, HCC.out]) (by rw [← HCC.out]; exact HN2.out) (fun x hx => HN5.out x (by rw [HCC.out]; exact hx)) (fun x hx => HN6.out x (by rw [HCC.out]; exact hx))).mono ?_
        rintro e w3 ⟨u, rfl, ho, hb3⟩
        rw [HSL.out] at ho
        exact ⟨u, rfl, hS1 _ _ hS hb3, hb3, own_base ho hS.size⟩)),
      obn_of (by kernel_rfl) (fun a w2 hS hB hD K hK => ⟨.inl rfl, run_callv (o := _) (cb := #[.pointer (some ⟨q1, 0, none⟩), .pointer (some ⟨q2, 0, none⟩)]) rfl (hD 2 17 rfl (by kernel_rfl)) (enters_of Try.func52 (by kernel_rfl) rfl) #[.slice at1 R (cr - 1), a.tmps.getD 22 undef] (by
          have h19 : a.tmps.getD 19 undef = .slice at1 R (cr - 1) := hD 4 19 rfl (by kernel_rfl)
          simp only [List.map_toArray, List.map_cons, List.map_nil]
          rw [show a.eval (.tmp 19) = a.tmps.getD 19 undef from rfl, h19]; rfl) (by
          have hb := (below_drew (Below.refl _ w1)).trans hS
          have hb0 := HB.out.trans (hb.mono hs1)
          have h22 : ownI w1.heap.size l (a.tmps.getD 22 undef) w2 := hD 7 22 rfl (by kernel_rfl)
          have hcl := HIH.out l _ (a.tmps.getD 22 undef) w2 HN4.out (rowC_below HTAIL.out hb0) (inRow_own h22) (Nat.lt_of_lt_of_le HQ1.out hb0.size) (Nat.lt_of_lt_of_le HQ2.out hb0.size) (below_cell hb0 HQ1.out HV1.out) (below_cell hb0 HQ2.out HV2.out)
          rw [← HM2.out] at hcl
          refine Calls.mono hcl ?_
          rintro e w3 ⟨u, rfl, ho, hb3⟩
          exact ⟨u, rfl, hK _ _ (hS1 _ _ hS hb3) (fun j u h => stable_all hst j u _ _ hb3 h) ⟨w2.heap.size, w3.heap.size, hS.size, Nat.le_refl _, ho⟩⟩)⟩),
      fun a w2 hS hB hD K hK => by
        obtain ⟨b, e16, hb1, hb2, hown⟩ : oneRow w1.heap.size (.slice ua row.length uc) (a.tmps.getD 16 undef) w2 := hD 1 16 rfl (by kernel_rfl)
        obtain ⟨lo, hi, hlo, hhi, hmat⟩ : ownM w1.heap.size M2 (a.tmps.getD 23 undef) w2 := hD 8 23 rfl (by kernel_rfl)
        have hb := (below_drew (Below.refl _ w1)).trans hS
        obtain ⟨v', w3, hr, hm3, hg3⟩ := exec_consMat (ρ := a.eval) (o := { dst := some 24, op := .call { callee := .builtin .append, args := #[.tmp 16, .tmp 23], argTypes := #[23, 23] }, type := 23, pos := "l05_build.go:20", after := #[{ on := 1, ground := .data }, { on := 8, ground := .data }, { on := 8, ground := .chain }], guard := none }) (w := w2) (row := row) (lo0 := w.heap.size) (hi0 := w1.heap.size) rfl e16 rfl hown (own_below HO.out hb) (fun k e => (HO.out.lt k e).2) hmat hs1 hlo hb1 hhi HLEN2.out hb2
        exact ⟨.inl rfl, run_value v' hr (hK _ _ (hS.trans ((Below.refl _ _).grown hg3 hS.size (fun k hk => by cases hk; exact hb1))) (fun j hj => absurd (needL_of hj) (by rw [show needL _ 9 = [] by kernel_rfl]; simp)) ⟨w.heap.size, w3.heap.size, Nat.le_refl _, Nat.le_refl _, hm3⟩)⟩,
      trivial⟩
  case fin =>
    intro a' w' h1 h2 h3 hS h4 K hK
    obtain ⟨lo, hi, hlo, hhi, hmat⟩ : ownM w.heap.size (row :: M2) (a'.tmps.getD 24 undef) w' := h4 9 24 rfl (by decide) (by kernel_rfl)
    obtain ⟨v24, hv24⟩ : ∃ v24, a'.tmps.getD 24 undef = v24 := ⟨_, rfl⟩
    rw [hv24] at hmat
    refine tail_assign rfl (show a'.eval (.tmp 24) = v24 from hv24) ?_ K hK
    have HMT := hide (ownMat_mono hmat hlo hhi)
    have HBE := hide (HB.out.trans (((below_drew (Below.refl _ w1)).trans hS).mono hs1))
    clear hst h3 h4 hK hS1 hv24 hmat
    go_wp2
    exact bodyPost_ret (results_tmp rfl _ _ _) rfl ⟨v24, congrArg Ending.returned (set_get (d := 6) (n := 25) h1 (by decide)), HMT.out, HBE.out⟩
theorem imageRec_any (g : Nat) (ch : List Int → List Int → List Int) (Inv : List Int → List Int → Prop) (H : Choice g ch Inv) (q1 q2 : Nat) : ∀ (r c : List Int) (vr vc : Value) (w : World), Inv r c → RowC w vr r → InRow w vc c → q1 < w.heap.size → q2 < w.heap.size → w.cell? ⟨q1, 0, none⟩ = some (.func (.func g) #[] #[]) →
    w.cell? ⟨q2, 0, none⟩ = some (.func (.func 52) #[] #[.pointer (some ⟨q1, 0, none⟩), .pointer (some ⟨q2, 0, none⟩)]) →
      Calls Try.prog 52 #[vr, vc, .pointer (some ⟨q1, 0, none⟩), .pointer (some ⟨q2, 0, none⟩)] w (MatRes (imgL ch r c) w) := by
  intro r
  induction r with
  | nil => intro c vr vc w _ hr _ _ _ _ _; exact imageRec_nil vr vc _ _ w hr.1
  | cons x r ih => intro c vr vc w hI hr hc hq1 hq2 hv1 hv2; exact imageRec_cons g ch Inv H x r c vr vc q1 q2 w ih hI hr hc hq1 hq2 hv1 hv2
theorem setRow_size (w : World) (g : Nat) (cs : Array Value) : (w.setRow g cs).heap.size = w.heap.size := by simp [World.setRow]
theorem setRow_below (B : Nat) (w : World) (g : Nat) (cs : Array Value) (h : B ≤ g) : Below B w (w.setRow g cs) :=
  ⟨rfl, rfl, rfl, by rw [setRow_size]; exact Nat.le_refl _, fun k hk => setRow_other w g k cs (by omega)⟩
theorem cell_setRow_ne (w : World) (g k : Nat) (cs : Array Value) (h : k ≠ g) : (w.setRow g cs).cell? ⟨k, 0, none⟩ = w.cell? ⟨k, 0, none⟩ := by
  unfold World.cell?
  dsimp only
  rw [setRow_other w g k cs h]
set_option maxHeartbeats 1000000 in
theorem imageBy_any (g : Nat) (ch : List Int → List Int → List Int) (Inv : List Int → List Int → Prop) (H : Choice g ch Inv) (r c : List Int) (vr vc : Value) (w : World) (hI : Inv r c) (hr : RowC w vr r) (hc : InRow w vc c) :
    Calls Try.prog 29 #[vr, vc, .func (.func g) #[] #[]] w (MatRes (imgL ch r c) w) := by
  have HR := hide hr; have HC := hide hc; have HREC := hide (imageRec_any g ch Inv H (w.heap.size) (w.heap.size + 1) r c vr vc)
  have HI := hide hI
  clear hr hc hI
  have hat : ((w.alloc (.cells #[Value.func (Fn.func g) #[] #[]] 50)).alloc (.cells #[Value.nilFunc] 51)).heap[w.heap.size + 1]? = some (.cells #[Value.nilFunc] 51 (0, 0)) := by
    have := heap_alloc_new (w.alloc (.cells #[Value.func (Fn.func g) #[] #[]] 50)) (.cells #[Value.nilFunc] 51)
    rwa [World.size_alloc] at this
  have hbw := ((Below.refl w.heap.size w).alloc (Nat.le_refl _) (.cells #[Value.func (Fn.func g) #[] #[]] 50)).alloc (by simp) (.cells #[Value.nilFunc] 51)
  have hc0 : ((w.alloc (.cells #[Value.func (Fn.func g) #[] #[]] 50)).alloc (.cells #[Value.nilFunc] 51)).cell? ⟨w.heap.size, 0, none⟩ = some (.func (.func g) #[] #[]) := by
    have h0 : (w.alloc (.cells #[Value.func (Fn.func g) #[] #[]] 50)).cell? ⟨w.heap.size, 0, none⟩ = some (.func (.func g) #[] #[]) := by simp [World.cell?_alloc_new]
    exact below_cell ((Below.refl _ _).alloc (Nat.le_refl _) _) (by simp) h0
  have hsz2 : ((w.alloc (.cells #[Value.func (Fn.func g) #[] #[]] 50)).alloc (.cells #[Value.nilFunc] 51)).heap.size = w.heap.size + 2 := by simp
  have HBW := hide hbw; have HC0 := hide hc0; have HSZ := hide hsz2
  have HAT := hide hat
  clear hat hbw hc0 hsz2
  go_enter Try.func29, Try.ntmps29
  have HFACT : Hid (∀ W3, W3 = (((w.alloc (.cells #[Value.func (Fn.func g) #[] #[]] 50)).alloc (.cells #[Value.nilFunc] 51))).setRow (w.heap.size + 1) #[.func (.func 52) #[] #[.pointer (some ⟨w.heap.size, 0, none⟩), .pointer (some ⟨w.heap.size + 1, 0, none⟩)]] → Below w.heap.size w W3 ∧ W3.cell? ⟨w.heap.size, 0, none⟩ = some (.func (.func g) #[] #[]) ∧ W3.cell? ⟨w.heap.size + 1, 0, none⟩ = some (.func (.func 52) #[] #[.pointer (some ⟨w.heap.size, 0, none⟩), .pointer (some ⟨w.heap.size + 1, 0, none⟩)]) ∧ W3.heap.size = w.heap.size + 2) := hide fun W3 h3 => by
    subst h3
    refine ⟨?_, ?_, ?_, ?_⟩
    · exact HBW.out.trans ((setRow_below (w.heap.size) _ (w.heap.size + 1) _ (by omega)))
    · rw [cell_setRow_ne _ _ _ _ (by simp)]; exact HC0.out
    · rw [cell_setRow_same _ _ 0 _ _ _ _ HAT.out]; rfl
    · rw [setRow_size]; exact HSZ.out
  go_wp2_with (refine wpList_store_oneTo rfl 51 _ _ rfl rfl (w.heap.size + 1) (.func (.func 52) #[] #[.pointer (some ⟨w.heap.size, 0, none⟩), .pointer (some ⟨w.heap.size + 1, 0, none⟩)]) rfl rfl rfl 51 .nilFunc HAT.out (by kernel_rfl) ?_; generalize hW3 : (((w.alloc (.cells #[Value.func (Fn.func g) #[] #[]] 50)).alloc (.cells #[Value.nilFunc] 51))).setRow (w.heap.size + 1) #[.func (.func 52) #[] #[.pointer (some ⟨w.heap.size, 0, none⟩), .pointer (some ⟨w.heap.size + 1, 0, none⟩)]] = W3; obtain ⟨hb3, hc30, hc31, hs3⟩ := HFACT.out W3 hW3.symm; have HB3 := hide hb3; have HC30 := hide hc30; have HC31 := hide hc31; have HS3 := hide hs3; clear hW3 hb3 hs3)
  refine (HREC.out W3 HI.out (rowC_below HR.out HB3.out) (inRow_below HC.out HB3.out) (by rw [HS3.out]; omega) (by rw [HS3.out]; omega) HC30.out HC31.out).mono ?_
  rintro e w4 ⟨v, rfl, ho, hb⟩
  have HO := hide (ownMat_mono ho HB3.out.size (Nat.le_refl _)); have HBE := hide (HB3.out.trans (hb.mono HB3.out.size))
  clear ho hb
  go_wp2
  go_ret
  exact ⟨_, rfl, HO.out, HBE.out⟩
end Go.Proofs.Ytecfigjkcpbggaa
