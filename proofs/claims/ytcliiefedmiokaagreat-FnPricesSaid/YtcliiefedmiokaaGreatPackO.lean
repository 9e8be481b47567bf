/-
  Texts of this claim, one behind the other: ImgBy, Rest, LeftS, AllS, LeastI.
-/
import Derived.Test.YtcliiefedmiokaaGreatPackG
import Derived.Test.YtcliiefedmiokaaGreatPackN
import Derived.Test.YtcliiefedmiokaaGreatPackB
import Derived.Laws.OwnMore
import Derived.Great.BuildSlice
import Derived.Shelf.Abstract
import Derived.Test.YtcliiefedmiokaaGreatPackL
import Derived.Test.YtcliiefedmiokaaGreatPackM
import Derived.Test.YtcliiefedmiokaaGreatPackH
/-
  imageBy of the program: rows continued by a function that calls itself through a variable.
-/
namespace Go.Proofs.YtcliiefedmiokaaGreat
open Go.RowKit Go.Shelf

/-- A call of a function value that a slot holds. -/
theorem run_callv {P : Program} {Q : Exit → Act → World → Prop} {o : Oper} {a : Act} {w : World} {K : Act → World → Prop} {f : FuncId} {cb : Array Value} {x : Operand} {xs : Array Operand} {ts : Array TypeId} (ho : o.op = .call { callee := .value x, args := xs, argTypes := ts })
    (hx : a.eval x = .func (.func f) #[] cb) (eg : ∀ args w, (callFunc f args).run P w = .ok (.enter f args) w) (args : Array Value) (hxs : xs.map a.eval = args) (h : Calls P f (args ++ cb) w fun e w' => ∃ v, e = .returned v ∧ K (a.put o.dst v) w') : o.wp P a w K Q := by
  subst hxs
  unfold Oper.wp
  simp only [execOp, ho, resolve, hx, Deferred.ofValue]
  simp [invoke, eg, Oper.upon]
  refine Calls.mono h ?_
  rintro e w' ⟨v, rfl, hk⟩
  exact hk

/-- 'append([][]int{row}, rest...)'. -/
theorem exec_consMat {ρ : Operand → Value} {o : Oper} {w : World} {x y : Operand} {b lo0 hi0 lo hi : Nat} {v2 urow : Value} {row : List Int} {m2 : List (List Int)}
    (ho : o.op = .call { callee := .builtin .append, args := #[x, y], argTypes := #[22, 22] }) (hx : ρ x = .slice (some ⟨b, 0, none⟩) 1 1) (hy : ρ y = v2)
    (hown : w.ownsRow b 30 1 (.slice (some ⟨b, 0, none⟩) 1 1) 1 [urow]) (hrow : w.ownsRow lo0 3 1 urow row.length (ints row)) (hrk : ∀ k, urow.ownBlock = some k → k < hi0)
    (hm : OwnMat w lo hi v2 m2) (h1 : lo0 ≤ hi0) (h2 : hi0 ≤ lo) (h3 : hi0 ≤ b) (h4 : hi ≤ w.heap.size) (h5 : m2.length ≤ 1000) (h6 : b < w.heap.size) :
    ∃ v' w', (execOp ρ o).run Tryz.prog w = .ok (.value v') w' ∧ OwnMat w' lo0 w'.heap.size v' (row :: m2) ∧ w.grownBy w' (some b) := by
  obtain ⟨vs, hv, hvh, hvr, hva⟩ := hm
  have hvl : vs.length = m2.length := by have := hv.1; omega
  obtain ⟨i0, hi0', hz0, hz1, hz2⟩ := info_parts Tryz.infoInts
  have key : ∃ v' w', (Builtin.append_ #[22, 22] o.type #[.slice (some ⟨b, 0, none⟩) 1 1, v2]).run Tryz.prog w = .ok v' w' ∧ w'.ownsRow b 30 1 v' (1 + m2.length) ([urow] ++ vs) ∧ w.grownBy w' (some b) := by
    rcases hv.2 with ⟨rfl, h0⟩ | ⟨g, cap, cur, rfl, hbg, hg, hc, hmx, hcs, htk⟩
    · have hvs : vs = [] := List.eq_nil_of_length_eq_zero (by omega)
      refine ⟨_, w, run_append_owned_none (P := Tryz.prog) w b 22 o.type 30 i0 1 Tryz.underlying22 hi0' _ 1 [urow] hown, ?_, ⟨rfl, rfl, rfl, Nat.le_refl _, fun _ _ _ => rfl⟩⟩
      rw [hvs, h0]; exact hown
    · obtain ⟨v', w', hr, g1, g2, -⟩ := run_append_own (P := Tryz.prog) w b 22 o.type 30 i0 (.slice none 0 0) 1 24 Tryz.underlying22 hi0' hz0 hz1 hz2 rfl (by decide) _ 1 [urow] hown ⟨g, 0, none⟩ m2.length cap vs (by omega) (fun j u hj => by
          rw [addr_add, Nat.zero_add]
          have hj' : j < m2.length := by have := (List.getElem?_eq_some_iff.1 hj).1; omega
          rw [hv.cellAt j (by omega), hj]) (fun u hu => by
          obtain ⟨j, hj, rfl⟩ := List.getElem_of_mem hu
          obtain ⟨q1, -⟩ := hvr j (by omega)
          rw [List.getD_eq_getElem?_getD, List.getElem?_eq_getElem hj, Option.getD_some] at q1
          obtain ⟨a, c, e⟩ := own_slice q1
          rw [e]; rfl) (by unfold maxLen; omega) (by omega) (by omega)
      exact ⟨v', w', hr, g1, g2⟩
  obtain ⟨v', w', hr, g1, g2⟩ := key
  have hsz := g2.size
  have hkeep : ∀ {lo n : Nat} {u : Value} {xs : List Value}, w.ownsRow lo 3 1 u n xs → w'.ownsRow lo 3 1 u n xs := fun {lo n u xs} h => h.kept g2 (by
    have := own_types h hown (by decide)
    simpa [Value.ownBlock] using this)
  refine ⟨v', w', ?_, ⟨urow :: vs, ?_, fun k e => (g1.lt k e).2, fun i h => ?_, fun i j hij hj => ?_⟩, g2⟩
  · unfold execOp
    simp only [ho, resolve, invoke, builtin, Sem.run_bind, Sem.run_pure, Result.andThen_ok, List.map_toArray, List.map_cons, List.map_nil, hx, hy, hr]
  · have := own_base (base' := lo0) g1 (by omega)
    rw [List.length_cons, Nat.add_comm]; exact this
  · cases i with
    | zero => exact ⟨hkeep hrow, fun k hk => by have := hrk k hk; omega⟩
    | succ i =>
      have hi' : i < m2.length := by simpa using h
      obtain ⟨q1, q2⟩ := hvr i hi'
      exact ⟨own_base (hkeep q1) (by omega), fun k hk => by have := q2 k hk; omega⟩
  · cases j with
    | zero => omega
    | succ j =>
      have hj' : j < m2.length := by simpa using hj
      cases i with
      | zero =>
        show urow.ownBlock = none ∨ urow.ownBlock ≠ (vs.getD j undef).ownBlock
        cases hk : urow.ownBlock with
        | none => exact .inl rfl
        | some k =>
          refine .inr fun e => ?_
          have q1 := hrk k hk
          have q2 := ((hvr j hj').1.lt k e.symm).1
          omega
      | succ i => exact hva i j (by omega) hj'

/-- What is asked of the choice of the next row. -/
structure Choice (g : Nat) (ch : List Int → List Int → List Int) (Inv : List Int → List Int → Prop) : Prop where
  enters : ∀ args w, (callFunc g args).run Tryz.prog w = .ok (.enter g args) w
  calls : ∀ (a : Int) (r c : List Int) (vr vc : Value) (w : World), Inv (a :: r) c → RowC w vr (a :: r) → InRow w vc c → Calls Tryz.prog g #[vr, vc] w (IntsRes (ch (a :: r) c) w)
  next : ∀ (a : Int) (r c : List Int), Inv (a :: r) c → r.length ≤ 4 ∧ c.length ≤ 5 ∧ (ch (a :: r) c).length = c.length ∧ Inv r (subL c (ch (a :: r) c)) ∧ (∀ x, x < c.length → -1000 ≤ c.getD x 0 ∧ c.getD x 0 ≤ 1000) ∧ ∀ x, x < c.length → -1000 ≤ (ch (a :: r) c).getD x 0 ∧ (ch (a :: r) c).getD x 0 ≤ 1000

/-- A list of one row, made behind B. -/
def oneRow (B : Nat) (u0 : Value) : FactP := fun u w2 => ∃ b, u = .slice (some ⟨b, 0, none⟩) 1 1 ∧ B ≤ b ∧ b < w2.heap.size ∧ w2.ownsRow b 30 1 (.slice (some ⟨b, 0, none⟩) 1 1) 1 [u0]
theorem stable_oneRow (B : Nat) (u0 : Value) : StableP (oneRow B u0) := fun _ _ _ hb h => by
  obtain ⟨b, h1, h2, h3, h4⟩ := h
  exact ⟨b, h1, h2, Nat.lt_of_lt_of_le h3 hb.size, own_below h4 hb⟩
def ownI (B : Nat) (r : List Int) : FactP := fun u w2 => w2.ownsRow B 3 1 u r.length (ints r)
theorem stable_ownI (B : Nat) (r : List Int) : StableP (ownI B r) := fun _ _ _ hb h => own_below h hb
def ownM (B : Nat) (m : List (List Int)) : FactP := fun u w2 => ∃ lo hi, B ≤ lo ∧ hi ≤ w2.heap.size ∧ OwnMat w2 lo hi u m
theorem stable_ownM (B : Nat) (m : List (List Int)) : StableP (ownM B m) := fun _ _ _ hb h => by
  obtain ⟨lo, hi, h1, h2, h3⟩ := h
  exact ⟨lo, hi, h1, Nat.le_trans h2 hb.size, ownMat_below h3 hb⟩
theorem exec_build1 {ρ : Operand → Value} {o : Oper} {w : World} {x : Operand} {a : Option Addr} {n c : Nat} (ho : o.op = .buildSlice 22 1 #[(0, x)]) (hx : ρ x = .slice a n c) :
    (execOp ρ o).run Tryz.prog w = .ok (.value (.slice (some ⟨w.heap.size, 0, none⟩) 1 1)) (w.alloc (.cells #[.slice a n c] 30)) := by
  unfold execOp
  simp only [ho]
  go_simp

set_option maxHeartbeats 400000 in
theorem imageRec_nil (vr vc : Value) (p1 p2 : Value) (w : World) (hr : InRow w vr []) :
    Calls Tryz.prog 93 #[vr, vc, p1, p2] w (MatRes [] w) := by
  obtain ⟨a, c, rfl, -, -⟩ := hr
  simp only [List.length_nil]
  go_enter Tryz.func93, Tryz.ntmps93
  go_wp2
  go_ret
  exact matRes_nil (Below.refl _ _)
set_option maxRecDepth 100000 in
set_option maxHeartbeats 4000000 in
theorem imageRec_cons (g : Nat) (ch : List Int → List Int → List Int) (Inv : List Int → List Int → Prop) (H : Choice g ch Inv) (x0 : Int) (r c : List Int) (vr vc : Value) (q1 q2 : Nat) (w : World)
    (ih : ∀ (c : List Int) (vr vc : Value) (w : World), Inv r c → RowC w vr r → InRow w vc c → q1 < w.heap.size → q2 < w.heap.size → w.cell? ⟨q1, 0, none⟩ = some (.func (.func g) #[] #[]) → w.cell? ⟨q2, 0, none⟩ = some (.func (.func 93) #[] #[.pointer (some ⟨q1, 0, none⟩), .pointer (some ⟨q2, 0, none⟩)]) →
      Calls Tryz.prog 93 #[vr, vc, .pointer (some ⟨q1, 0, none⟩), .pointer (some ⟨q2, 0, none⟩)] w (MatRes (imgL ch r c) w))
    (hI : Inv (x0 :: r) c) (hr : RowC w vr (x0 :: r)) (hc : InRow w vc c) (hq1 : q1 < w.heap.size) (hq2 : q2 < w.heap.size) (hv1 : w.cell? ⟨q1, 0, none⟩ = some (.func (.func g) #[] #[])) (hv2 : w.cell? ⟨q2, 0, none⟩ = some (.func (.func 93) #[] #[.pointer (some ⟨q1, 0, none⟩), .pointer (some ⟨q2, 0, none⟩)])) :
    Calls Tryz.prog 93 #[vr, vc, .pointer (some ⟨q1, 0, none⟩), .pointer (some ⟨q2, 0, none⟩)] w (MatRes (imgL ch (x0 :: r) c) w) := by
  obtain ⟨n1, n2, n3, n4, n5, n6⟩ := H.next x0 r c hI
  have hcall := H.calls x0 r c vr vc w hI hr hc
  have eg := H.enters
  rw [imgL]
  obtain ⟨row, hrow⟩ : ∃ row, row = ch (x0 :: r) c := ⟨_, rfl⟩
  rw [← hrow] at n3 n4 n6 hcall ⊢
  obtain ⟨l, hl⟩ : ∃ l, l = subL c row := ⟨_, rfl⟩
  have HL := hide hl
  rw [← hl] at n4 ⊢
  obtain ⟨M2, hM2⟩ : ∃ M2, M2 = imgL ch r l := ⟨_, rfl⟩
  have HM2 := hide hM2
  have hlen2 : M2.length ≤ 1000 := by rw [hM2, imgL_len]; omega
  have HLEN2 := hide hlen2
  rw [← hM2]
  have HIH := hide ih; have HN4 := hide n4; have HN5 := hide n5; have HN6 := hide n6; have HN3 := hide n3; have HCALL := hide hcall; have HR := hide hr; have HC := hide hc; have HQ1 := hide hq1; have HQ2 := hide hq2; have HV2 := hide hv2; have HV1 := hide hv1; have HN2 := hide n2
  clear ih n1 n2 n3 n4 n5 n6 hcall hrow hl hM2 hI hlen2
  have HT := hr
  obtain ⟨⟨a, cr, he, hm, hp⟩, -⟩ := hr
  obtain ⟨gr, or', rfl, hgr, -⟩ := hp.resolve_left (by simp)
  have hcap : r.length + 1 ≤ cr ∧ cr ≤ maxLen := by
    obtain ⟨-, a2, c2, he2, h2, h3⟩ := HT
    rw [he] at he2; cases he2
    simpa using ⟨h2, h3⟩
  obtain ⟨hcap1, hcap2⟩ := hcap
  subst he
  obtain ⟨at1, hat1⟩ : ∃ at1, at1 = if cr = 1 then some (⟨gr, or', none⟩ : Addr) else some ⟨gr, or' + 1, none⟩ := ⟨_, rfl⟩
  have HAT := hide hat1
  have htail := rowC_tail HT
  rw [← hat1] at htail
  have HTAIL := hide htail
  clear hat1 htail
  obtain ⟨ac, cc, rfl, hmc, -⟩ := hc
  simp only [List.length_cons, Nat.add_sub_cancel] at *
  unfold maxLen at hcap2 hmc hm
  obtain ⟨R, hRR⟩ : ∃ R, R = r.length := ⟨_, rfl⟩
  obtain ⟨C, hCC⟩ : ∃ C, C = c.length := ⟨_, rfl⟩
  have HRR := hide hRR; have HCC := hide hCC
  rw [← hRR] at HR HTAIL HCALL hcap1 hm ⊢
  rw [← hCC] at HC HCALL hmc HN3 HN5 HN6 HN2 ⊢
  clear hp HT hRR hCC hgr
  go_enter Tryz.func93, Tryz.ntmps93
  go_wp2_with (go_at_fn g; refine HCALL.out.mono ?_; rintro e w1 ⟨v1, rfl, ho, hb⟩; have HO := hide ho; have HB := hide hb; obtain ⟨ua, uc, rfl⟩ := own_slice ho; clear ho hb)
  have hs1 := HB.out.size
  have HSL : Hid (subL c row = l) := hide HL.out.symm
  obtain ⟨fs, hfs⟩ : ∃ fs : List FactP, fs = [isV (.slice ua row.length uc), oneRow w1.heap.size (.slice ua row.length uc), isV (.func (.func 93) #[] #[.pointer (some ⟨q1, 0, none⟩), .pointer (some ⟨q2, 0, none⟩)]), isV (.slice (some ⟨gr, or', none⟩) (R + 1) cr), isV (.slice at1 R (cr - 1)), isV (.slice ac C cc), isV (.slice ua row.length uc), ownI w1.heap.size l, ownM w1.heap.size M2, ownM w.heap.size (row :: M2)] := ⟨_, rfl⟩
  have hst : ∀ f ∈ fs, StableP f := by
    rw [hfs]; intro f hf
    simp only [List.mem_cons, List.not_mem_nil, or_false] at hf
    rcases hf with rfl | rfl | rfl | rfl | rfl | rfl | rfl | rfl | rfl | rfl <;> first | exact stable_v _ | exact stable_oneRow _ _ | exact stable_ownI _ _ | exact stable_ownM _ _
  subst hfs
  have hS1 : ∀ (w2 w3 : World), Below w1.heap.size w1.drew w2 → Below w2.heap.size w2 w3 → Below w1.heap.size w1.drew w3 := fun w2 w3 h k => h.trans (k.mono h.size)
  refine wp_region_need (S := fun w2 => Below w1.heap.size w1.drew w2) [isV (.slice ua row.length uc), oneRow w1.heap.size (.slice ua row.length uc), isV (.func (.func 93) #[] #[.pointer (some ⟨q1, 0, none⟩), .pointer (some ⟨q2, 0, none⟩)]), isV (.slice (some ⟨gr, or', none⟩) (R + 1) cr), isV (.slice at1 R (cr - 1)), isV (.slice ac C cc), isV (.slice ua row.length uc), ownI w1.heap.size l, ownM w1.heap.size M2, ownM w.heap.size (row :: M2)] [(0, .slice (some ⟨gr, or', none⟩) (R + 1) cr), (1, .slice ac C cc), (3, .pointer (some ⟨q2, 0, none⟩)), (7, .slice ua row.length uc)] _ _ 10 (by kernel_rfl) rfl rfl (by kernel_rfl) (by kernel_rfl) rfl (by kernel_rfl) ?base (Below.refl _ _) ?ob rfl ?fin
  case base =>
    intro t v ht
    simp only [List.lookup_cons, List.lookup_nil] at ht
    repeat' split at ht
    all_goals first | (cases ht; done) | (obtain rfl := Option.some.inj ht; rename_i hh; obtain rfl := eq_of_beq hh; rfl)
  case ob =>
    exact ⟨obn_of (by kernel_rfl) (obt_move (.slice ua row.length uc) rfl rfl rfl (srt_b 7 rfl)),
      obn_of (by kernel_rfl) (obt_make hst rfl fun a w2 hS hs => ⟨_, _, exec_build1 (w := w2) rfl (hs _ _ (srt_j 0 rfl (by kernel_rfl) rfl)), hS1 _ _ hS ((Below.refl _ _).alloc (Nat.le_refl _) _), (Below.refl _ _).alloc (Nat.le_refl _) _,
        ⟨w2.heap.size, rfl, hS.size, by simp, World.ownsRow_lit w2 #[.slice ua row.length uc] 1 (Nat.le_refl _) (by decide) rfl⟩⟩),
      obn_of (by kernel_rfl) (obt_one (.func (.func 93) #[] #[.pointer (some ⟨q1, 0, none⟩), .pointer (some ⟨q2, 0, none⟩)]) rfl rfl (srt_b 3 rfl) (fun ρ w2 hS hx => by
        have hv := below_cell (below_drew (Below.refl _ w1) |>.trans hS) (Nat.lt_of_lt_of_le HQ2.out hs1) (below_cell HB.out HQ2.out HV2.out)
        go_simp)),
      obn_of (by kernel_rfl) (obt_move (.slice (some ⟨gr, or', none⟩) (R + 1) cr) rfl rfl rfl (srt_b 0 rfl)),
      obn_of (by kernel_rfl) (obt_two (.slice at1 R (cr - 1)) rfl rfl (srt_j 3 rfl (by kernel_rfl) rfl) (srt_c (v := .int .i64 1)) (fun ρ w2 hS hx hy => by have hat := HAT.out; go_simp; intro h; omega)),
      obn_of (by kernel_rfl) (obt_move (.slice ac C cc) rfl rfl rfl (srt_b 1 rfl)),
      obn_of (by kernel_rfl) (obt_move (.slice ua row.length uc) rfl rfl rfl (srt_b 7 rfl)),
      obn_of (by kernel_rfl) (obt_call hst [.slice ac C cc, .slice ua row.length uc] rfl Tryz.func94 (by kernel_rfl) (by kernel_rfl) rfl ⟨srt_j 5 rfl (by kernel_rfl) rfl, srt_j 6 rfl (by kernel_rfl) rfl, trivial⟩ (fun w2 hS => by
        have hb := (below_drew (Below.refl _ w1)).trans hS
        refine (sumsWithout_any _ _ c row w2 (inRow_below HC.out (HB.out.trans (hb.mono hs1))) (inRow_below (inRow_own HO.out) hb) (by rw [HN3.out, HCC.out]) (by rw [← HCC.out]; exact HN2.out) (fun x hx => HN5.out x (by rw [HCC.out]; exact hx)) (fun x hx => HN6.out x (by rw [HCC.out]; exact hx))).mono ?_
        rintro e w3 ⟨u, rfl, ho, hb3⟩
        rw [HSL.out] at ho
        exact ⟨u, rfl, hS1 _ _ hS hb3, hb3, own_base ho hS.size⟩)),
      obn_of (by kernel_rfl) (fun a w2 hS hB hD K hK => ⟨.inl rfl, run_callv (o := _) (cb := #[.pointer (some ⟨q1, 0, none⟩), .pointer (some ⟨q2, 0, none⟩)]) rfl (hD 2 17 rfl (by kernel_rfl)) (enters_of Tryz.func93 (by kernel_rfl) rfl) #[.slice at1 R (cr - 1), a.tmps.getD 22 undef] (by
          have h19 : a.tmps.getD 19 undef = .slice at1 R (cr - 1) := hD 4 19 rfl (by kernel_rfl)
          simp only [List.map_toArray, List.map_cons, List.map_nil]
          rw [show a.eval (.tmp 19) = a.tmps.getD 19 undef from rfl, h19]; rfl) (by
          have hb := (below_drew (Below.refl _ w1)).trans hS
          have hb0 := HB.out.trans (hb.mono hs1)
          have h22 : ownI w1.heap.size l (a.tmps.getD 22 undef) w2 := hD 7 22 rfl (by kernel_rfl)
          have hcl := HIH.out l _ (a.tmps.getD 22 undef) w2 HN4.out (rowC_below HTAIL.out hb0) (inRow_own h22) (Nat.lt_of_lt_of_le HQ1.out hb0.size) (Nat.lt_of_lt_of_le HQ2.out hb0.size) (below_cell hb0 HQ1.out HV1.out) (below_cell hb0 HQ2.out HV2.out)
          rw [← HM2.out] at hcl
          refine Calls.mono hcl ?_
          rintro e w3 ⟨u, rfl, ho, hb3⟩
          exact ⟨u, rfl, hK _ _ (hS1 _ _ hS hb3) (fun j u h => stable_all hst j u _ _ hb3 h) ⟨w2.heap.size, w3.heap.size, hS.size, Nat.le_refl _, ho⟩⟩)⟩),
      fun a w2 hS hB hD K hK => by
        obtain ⟨b, e16, hb1, hb2, hown⟩ : oneRow w1.heap.size (.slice ua row.length uc) (a.tmps.getD 16 undef) w2 := hD 1 16 rfl (by kernel_rfl)
        obtain ⟨lo, hi, hlo, hhi, hmat⟩ : ownM w1.heap.size M2 (a.tmps.getD 23 undef) w2 := hD 8 23 rfl (by kernel_rfl)
        have hb := (below_drew (Below.refl _ w1)).trans hS
        obtain ⟨v', w3, hr, hm3, hg3⟩ := exec_consMat (ρ := a.eval) (o := { dst := some 24, op := .call { callee := .builtin .append, args := #[.tmp 16, .tmp 23], argTypes := #[22, 22] }, type := 22, pos := "l05_build.go:20", after := #[{ on := 1, ground := .data }, { on := 8, ground := .data }, { on := 8, ground := .chain }], guard := none }) (w := w2) (row := row) (lo0 := w.heap.size) (hi0 := w1.heap.size) rfl e16 rfl hown (own_below HO.out hb) (fun k e => (HO.out.lt k e).2) hmat hs1 hlo hb1 hhi HLEN2.out hb2
        exact ⟨.inl rfl, run_value v' hr (hK _ _ (hS.trans ((Below.refl _ _).grown hg3 hS.size (fun k hk => by cases hk; exact hb1))) (fun j hj => absurd (needL_of hj) (by rw [show needL _ 9 = [] by kernel_rfl]; simp)) ⟨w.heap.size, w3.heap.size, Nat.le_refl _, Nat.le_refl _, hm3⟩)⟩,
      trivial⟩
  case fin =>
    intro a' w' h1 h2 h3 hS h4 K hK
    obtain ⟨lo, hi, hlo, hhi, hmat⟩ : ownM w.heap.size (row :: M2) (a'.tmps.getD 24 undef) w' := h4 9 24 rfl (by decide) (by kernel_rfl)
    obtain ⟨v24, hv24⟩ : ∃ v24, a'.tmps.getD 24 undef = v24 := ⟨_, rfl⟩
    rw [hv24] at hmat
    refine tail_assign rfl (show a'.eval (.tmp 24) = v24 from hv24) ?_ K hK
    have HMT := hide (ownMat_mono hmat hlo hhi)
    have HBE := hide (HB.out.trans (((below_drew (Below.refl _ w1)).trans hS).mono hs1))
    clear hst h3 h4 hK hS1 hv24 hmat
    go_wp2
    exact bodyPost_ret (results_tmp rfl _ _ _) rfl ⟨v24, congrArg Ending.returned (set_get (d := 6) (n := 25) h1 (by decide)), HMT.out, HBE.out⟩
theorem imageRec_any (g : Nat) (ch : List Int → List Int → List Int) (Inv : List Int → List Int → Prop) (H : Choice g ch Inv) (q1 q2 : Nat) : ∀ (r c : List Int) (vr vc : Value) (w : World), Inv r c → RowC w vr r → InRow w vc c → q1 < w.heap.size → q2 < w.heap.size → w.cell? ⟨q1, 0, none⟩ = some (.func (.func g) #[] #[]) →
    w.cell? ⟨q2, 0, none⟩ = some (.func (.func 93) #[] #[.pointer (some ⟨q1, 0, none⟩), .pointer (some ⟨q2, 0, none⟩)]) →
      Calls Tryz.prog 93 #[vr, vc, .pointer (some ⟨q1, 0, none⟩), .pointer (some ⟨q2, 0, none⟩)] w (MatRes (imgL ch r c) w) := by
  intro r
  induction r with
  | nil => intro c vr vc w _ hr _ _ _ _ _; exact imageRec_nil vr vc _ _ w hr.1
  | cons x r ih => intro c vr vc w hI hr hc hq1 hq2 hv1 hv2; exact imageRec_cons g ch Inv H x r c vr vc q1 q2 w ih hI hr hc hq1 hq2 hv1 hv2
theorem setRow_size (w : World) (g : Nat) (cs : Array Value) : (w.setRow g cs).heap.size = w.heap.size := by simp [World.setRow]
theorem setRow_below (B : Nat) (w : World) (g : Nat) (cs : Array Value) (h : B ≤ g) : Below B w (w.setRow g cs) :=
  ⟨rfl, rfl, rfl, by rw [setRow_size]; exact Nat.le_refl _, fun k hk => setRow_other w g k cs (by omega)⟩
theorem cell_setRow_ne (w : World) (g k : Nat) (cs : Array Value) (h : k ≠ g) : (w.setRow g cs).cell? ⟨k, 0, none⟩ = w.cell? ⟨k, 0, none⟩ := by
  unfold World.cell?
  dsimp only
  rw [setRow_other w g k cs h]
set_option maxHeartbeats 1000000 in
theorem imageBy_any (g : Nat) (ch : List Int → List Int → List Int) (Inv : List Int → List Int → Prop) (H : Choice g ch Inv) (r c : List Int) (vr vc : Value) (w : World) (hI : Inv r c) (hr : RowC w vr r) (hc : InRow w vc c) :
    Calls Tryz.prog 47 #[vr, vc, .func (.func g) #[] #[]] w (MatRes (imgL ch r c) w) := by
  have HR := hide hr; have HC := hide hc; have HREC := hide (imageRec_any g ch Inv H (w.heap.size) (w.heap.size + 1) r c vr vc)
  have HI := hide hI
  clear hr hc hI
  have hat : ((w.alloc (.cells #[Value.func (Fn.func g) #[] #[]] 108)).alloc (.cells #[Value.nilFunc] 51)).heap[w.heap.size + 1]? = some (.cells #[Value.nilFunc] 51 (0, 0)) := by
    have := heap_alloc_new (w.alloc (.cells #[Value.func (Fn.func g) #[] #[]] 108)) (.cells #[Value.nilFunc] 51)
    rwa [World.size_alloc] at this
  have hbw := ((Below.refl w.heap.size w).alloc (Nat.le_refl _) (.cells #[Value.func (Fn.func g) #[] #[]] 108)).alloc (by simp) (.cells #[Value.nilFunc] 51)
  have hc0 : ((w.alloc (.cells #[Value.func (Fn.func g) #[] #[]] 108)).alloc (.cells #[Value.nilFunc] 51)).cell? ⟨w.heap.size, 0, none⟩ = some (.func (.func g) #[] #[]) := by
    have h0 : (w.alloc (.cells #[Value.func (Fn.func g) #[] #[]] 108)).cell? ⟨w.heap.size, 0, none⟩ = some (.func (.func g) #[] #[]) := by simp [World.cell?_alloc_new]
    exact below_cell ((Below.refl _ _).alloc (Nat.le_refl _) _) (by simp) h0
  have hsz2 : ((w.alloc (.cells #[Value.func (Fn.func g) #[] #[]] 108)).alloc (.cells #[Value.nilFunc] 51)).heap.size = w.heap.size + 2 := by simp
  have HBW := hide hbw; have HC0 := hide hc0; have HSZ := hide hsz2
  have HAT := hide hat
  clear hat hbw hc0 hsz2
  go_enter Tryz.func47, Tryz.ntmps47
  have HFACT : Hid (∀ W3, W3 = (((w.alloc (.cells #[Value.func (Fn.func g) #[] #[]] 108)).alloc (.cells #[Value.nilFunc] 51))).setRow (w.heap.size + 1) #[.func (.func 93) #[] #[.pointer (some ⟨w.heap.size, 0, none⟩), .pointer (some ⟨w.heap.size + 1, 0, none⟩)]] → Below w.heap.size w W3 ∧ W3.cell? ⟨w.heap.size, 0, none⟩ = some (.func (.func g) #[] #[]) ∧ W3.cell? ⟨w.heap.size + 1, 0, none⟩ = some (.func (.func 93) #[] #[.pointer (some ⟨w.heap.size, 0, none⟩), .pointer (some ⟨w.heap.size + 1, 0, none⟩)]) ∧ W3.heap.size = w.heap.size + 2) := hide fun W3 h3 => by
    subst h3
    refine ⟨?_, ?_, ?_, ?_⟩
    · exact HBW.out.trans ((setRow_below (w.heap.size) _ (w.heap.size + 1) _ (by omega)))
    · rw [cell_setRow_ne _ _ _ _ (by simp)]; exact HC0.out
    · rw [cell_setRow_same _ _ 0 _ _ _ _ HAT.out]; rfl
    · rw [setRow_size]; exact HSZ.out
  go_wp2_with (refine wpList_store_oneTo rfl 51 _ _ rfl rfl (w.heap.size + 1) (.func (.func 93) #[] #[.pointer (some ⟨w.heap.size, 0, none⟩), .pointer (some ⟨w.heap.size + 1, 0, none⟩)]) rfl rfl rfl 51 .nilFunc HAT.out (by kernel_rfl) ?_; generalize hW3 : (((w.alloc (.cells #[Value.func (Fn.func g) #[] #[]] 108)).alloc (.cells #[Value.nilFunc] 51))).setRow (w.heap.size + 1) #[.func (.func 93) #[] #[.pointer (some ⟨w.heap.size, 0, none⟩), .pointer (some ⟨w.heap.size + 1, 0, none⟩)]] = W3; obtain ⟨hb3, hc30, hc31, hs3⟩ := HFACT.out W3 hW3.symm; have HB3 := hide hb3; have HC30 := hide hc30; have HC31 := hide hc31; have HS3 := hide hs3; clear hW3 hb3 hs3)
  refine (HREC.out W3 HI.out (rowC_below HR.out HB3.out) (inRow_below HC.out HB3.out) (by rw [HS3.out]; omega) (by rw [HS3.out]; omega) HC30.out HC31.out).mono ?_
  rintro e w4 ⟨v, rfl, ho, hb⟩
  have HO := hide (ownMat_mono ho HB3.out.size (Nat.le_refl _)); have HBE := hide (HB3.out.trans (hb.mono HB3.out.size))
  clear ho hb
  go_wp2
  go_ret
  exact ⟨_, rfl, HO.out, HBE.out⟩
end Go.Proofs.YtcliiefedmiokaaGreat
/-
  restExists, the predicate of rowsAt, rowsAt, leastRow of the program.
-/
namespace Go.Proofs.YtcliiefedmiokaaGreat
open Go.RowKit Go.Shelf

theorem bitRows_rowsL (C : Nat) (hC : 1 ≤ C ∧ C ≤ 5) (s : Int) : bitRows C s (2 ^ C) = rowsLn C s := by
  obtain ⟨h1, h2⟩ := hC
  by_cases hs : 0 ≤ s ∧ s ≤ 5
  · obtain ⟨k, rfl⟩ : ∃ k : Nat, s = k := ⟨s.toNat, by omega⟩
    have hk : k ≤ 5 := by omega
    have key : ∀ C : Nat, C ≤ 5 → ∀ k : Nat, k ≤ 5 → bitRows C (k : Int) (2 ^ C) = rowsLn C (k : Int) := by decide +kernel
    exact key C h2 k hk
  · have e1 : rowsLn C s = [] := by
      rw [List.eq_nil_iff_forall_not_mem]
      intro row hr
      obtain ⟨g1, g2, g3⟩ := (mem_rowsL _ _ _).1 hr
      have h0 := sum_nonneg01 row g2
      have h5 : ∀ l : List Int, (∀ x ∈ l, x = 0 ∨ x = 1) → l.sum ≤ l.length := fun l => by
        induction l with
        | nil => intro _; exact Int.le_refl _
        | cons x l ih =>
          intro h
          have := ih fun y hy => h y (List.mem_cons_of_mem _ hy)
          have := h x List.mem_cons_self
          rw [List.sum_cons, List.length_cons]; omega
      have := h5 row g2
      omega
    have e2 : bitRows C s (2 ^ C) = [] := by
      unfold bitRows
      rw [List.map_eq_nil_iff, List.filter_eq_nil_iff]
      intro n _
      have : pop5 n ≤ 5 := by unfold pop5; omega
      simp only [decide_eq_true_eq]; omega
    rw [e1, e2]

set_option maxHeartbeats 400000 in
theorem restExists_any (va vb : Value) (r c : List Int) (w : World) (ha : InRow w va r) (hb : InRow w vb c) :
    Calls Tryz.prog 107 #[va, vb] w fun e w' => e = .returned (.bool (restB r c)) ∧ Below w.heap.size w w' := by
  have HE := hide (implExists_any va vb r c w ha hb); have HS := hide (sumsInRange_any vb c 0 w hb)
  obtain ⟨a, ca, rfl, hm, -⟩ := ha
  unfold maxLen at hm
  unfold restB
  cases r with
  | nil =>
    rw [if_pos rfl]
    clear hb HE
    simp only [List.length_nil] at hm ⊢
    go_enter Tryz.func107, Tryz.ntmps107
    go_wp2_with (go_at_call 124; refine HS.out.mono ?_; rintro e w1 ⟨rfl, b1⟩; have B1 := hide b1; clear b1)
    go_ret
    exact ⟨rfl, B1.out⟩
  | cons x l =>
    rw [if_neg (by simp)]
    clear hb HS
    obtain ⟨n, hn⟩ : ∃ n, n = (x :: l).length := ⟨_, rfl⟩
    have hn1 : 1 ≤ n := by rw [hn]; simp
    rw [← hn] at hm HE ⊢
    have hn0 : ((n : Int) == 0) = false := beq_eq_false_iff_ne.2 (by omega)
    clear hn
    go_enter Tryz.func107, Tryz.ntmps107
    go_wp2_with (go_at_call 46; refine HE.out.mono ?_; rintro e w1 ⟨rfl, b1⟩; have B1 := hide b1; clear b1)
    go_ret
    exact ⟨rfl, B1.out⟩

/-- Numbers that sumsWithout can reckon with. -/
def Mid1000 (c : List Int) : Prop := c.length ≤ 5 ∧ ∀ x, x < c.length → -1000 ≤ c.getD x 0 ∧ c.getD x 0 ≤ 1000
theorem mid_rowOf {n : Nat} {a : Int} {row : List Int} (h : RowOf n a row) (hn : n ≤ 5) : Mid1000 row := by
  refine ⟨by rw [h.1]; exact hn, fun x hx => ?_⟩
  have := rowOf_cell h (x := x) (by rw [← h.1]; exact hx)
  omega
set_option maxRecDepth 100000 in
set_option maxHeartbeats 1000000 in
theorem rowsPred_any (vo vc u : Value) (o c row : List Int) (qo qc : Nat) (w : World) (hqo : qo < w.heap.size) (hqc : qc < w.heap.size) (hvo : w.cell? ⟨qo, 0, none⟩ = some vo) (hvc : w.cell? ⟨qc, 0, none⟩ = some vc) (hO : InRow w vo o) (hC : InRow w vc c) (hU : InRow w u row) (hl : row.length = c.length) (hM : Mid1000 c) (hR : Mid1000 row) :
    Calls Tryz.prog 106 #[u, .pointer (some ⟨qo, 0, none⟩), .pointer (some ⟨qc, 0, none⟩)] w fun e w' => e = .returned (.bool (!restB o (subL c row))) ∧ Below w.heap.size w w' := by
  have HO := hide hO; have HC := hide hC; have HU := hide hU; have HL := hide hl; have HM := hide hM; have HR := hide hR; have HQO := hide hqo; have HQC := hide hqc; have HVO := hide hvo; have HVC := hide hvc
  obtain ⟨ao, no, co, hvo'⟩ : ∃ a n c, vo = .slice a n c := by obtain ⟨a, c, rfl, -⟩ := hO; exact ⟨a, _, c, rfl⟩
  obtain ⟨ac, nc, cc, hvc'⟩ : ∃ a n c, vc = .slice a n c := by obtain ⟨a, c, rfl, -⟩ := hC; exact ⟨a, _, c, rfl⟩
  obtain ⟨au, nu, cu, hu'⟩ : ∃ a n c, u = .slice a n c := by obtain ⟨a, c, rfl, -⟩ := hU; exact ⟨a, _, c, rfl⟩
  obtain ⟨b, hb⟩ : ∃ b, b = restB o (subL c row) := ⟨_, rfl⟩
  have HBB := hide hb
  rw [← hb]
  clear hO hC hU hl hM hR hqo hqc hvo hvc hb
  subst hvo' hvc' hu'
  go_enter Tryz.func106, Tryz.ntmps106
  go_wp2
  obtain ⟨fs, hfs⟩ : ∃ fs : List FactP, fs = [isV (.slice ao no co), isV (.slice ac nc cc), isV (.slice au nu cu), ownI w.heap.size (subL c row), isV (.bool b), isV (.bool (!b))] := ⟨_, rfl⟩
  have hst : ∀ f ∈ fs, StableP f := by
    rw [hfs]; intro f hf
    simp only [List.mem_cons, List.not_mem_nil, or_false] at hf
    rcases hf with rfl | rfl | rfl | rfl | rfl | rfl <;> first | exact stable_v _ | exact stable_ownI _ _
  subst hfs
  have hS1 : ∀ (w2 w3 : World), Below w.heap.size w.drew w2 → Below w2.heap.size w2 w3 → Below w.heap.size w.drew w3 := fun w2 w3 h k => h.trans (k.mono h.size)
  have hS0 : ∀ w2 : World, Below w.heap.size w.drew w2 → Below w.heap.size w w2 := fun w2 h => (below_drew (Below.refl _ w)).trans h
  refine wp_region_tail (S := fun w2 => Below w.heap.size w.drew w2) [isV (.slice ao no co), isV (.slice ac nc cc), isV (.slice au nu cu), ownI w.heap.size (subL c row), isV (.bool b), isV (.bool (!b))] [(0, .slice au nu cu), (1, .pointer (some ⟨qo, 0, none⟩)), (2, .pointer (some ⟨qc, 0, none⟩))] _ _ 6 (by kernel_rfl) rfl rfl (by kernel_rfl) (by kernel_rfl) rfl (by kernel_rfl) ?base (Below.refl _ _) ?ob rfl ?fin
  case base =>
    intro t v ht
    simp only [List.lookup_cons, List.lookup_nil] at ht
    repeat' split at ht
    all_goals first | (cases ht; done) | (obtain rfl := Option.some.inj ht; rename_i hh; obtain rfl := eq_of_beq hh; rfl)
  case ob =>
    exact ⟨obt_one (.slice ao no co) rfl rfl (srt_b 1 rfl) (fun ρ w2 hS hx => by have hv := below_cell (hS0 _ hS) HQO.out HVO.out; go_simp),
      obt_one (.slice ac nc cc) rfl rfl (srt_b 2 rfl) (fun ρ w2 hS hx => by have hv := below_cell (hS0 _ hS) HQC.out HVC.out; go_simp),
      obt_move (.slice au nu cu) rfl rfl rfl (srt_b 0 rfl),
      obt_call hst [.slice ac nc cc, .slice au nu cu] rfl Tryz.func94 (by kernel_rfl) (by kernel_rfl) rfl ⟨srt_j 1 rfl (by kernel_rfl) rfl, srt_j 2 rfl (by kernel_rfl) rfl, trivial⟩ (fun w2 hS => by
        refine (sumsWithout_any _ _ c row w2 (inRow_below HC.out (hS0 _ hS)) (inRow_below HU.out (hS0 _ hS)) HL.out HM.out.1 HM.out.2 (fun x hx => HR.out.2 x (by rw [HL.out]; exact hx))).mono ?_
        rintro e w3 ⟨u, rfl, ho, hb3⟩
        exact ⟨u, rfl, hS1 _ _ hS hb3, hb3, own_base ho hS.size⟩),
      obt_call_r hst 3 rfl Tryz.func107 (by kernel_rfl) (by kernel_rfl) rfl rfl (by kernel_rfl) (srt_j 0 rfl (by kernel_rfl) rfl) (fun v w2 hS hf => by
        refine (restExists_any _ v o (subL c row) w2 (inRow_below HO.out (hS0 _ hS)) (inRow_own hf)).mono ?_
        rintro e w3 ⟨rfl, hb3⟩
        rw [← HBB.out]
        exact ⟨_, rfl, hS1 _ _ hS hb3, hb3, rfl⟩),
      obt_one (.bool (!b)) rfl rfl (srt_j 4 rfl (by kernel_rfl) rfl) (fun ρ w2 hS hx => by go_simp),
      trivial⟩
  case fin =>
    intro a' w' h1 h2 h3 hS h4 K hK
    have hv : a'.eval (.tmp 10) = .bool (!b) := h4 5 10 rfl (by decide)
    refine tail_assign rfl hv ?_ K hK
    go_wp2
    exact bodyPost_ret (results_tmp rfl _ _ _) rfl ⟨congrArg Ending.returned (set_get (n := 11) h1 (by decide)), hS0 _ hS⟩
def rowsT (B : Nat) (m : List (List Int)) : FactP := fun u w2 => MatT w2 B u m
theorem stable_rowsT (B : Nat) (m : List (List Int)) : StableP (rowsT B m) := fun _ _ _ hb h => matT_below h hb
theorem rowsAt_filter (r c : List Int) (y : Nat) : ((rowsLn c.length (r.getD y 0)).filter fun x => !(!restB (r.eraseIdx y) (subL c x))) = rowsAtL r c y := by
  unfold rowsAtL
  congr 1
  funext x; rw [Bool.not_not]
set_option maxRecDepth 100000 in
set_option maxHeartbeats 2000000 in
theorem rowsAt_any (vr vc : Value) (r c : List Int) (y : Nat) (w : World) (hr : InRow w vr r) (hc : InRow w vc c) (hy : y < r.length) (hr5 : r.length ≤ 5) (hC1 : 1 ≤ c.length) (hM : Mid1000 c) :
    Calls Tryz.prog 57 #[vr, vc, .int .i64 y] w (RowsRes w.heap.size (rowsAtL r c y) w) := by
  have HR := hide hr; have HC := hide hc; have HM := hide hM
  have hbox := (Below.refl w.heap.size w).alloc (Nat.le_refl _) (.cells #[vc] 30)
  have HBX := hide hbox
  have HCX := hide (show (w.alloc (.cells #[vc] 30)).cell? ⟨w.heap.size, 0, none⟩ = some vc by simp [World.cell?_alloc_new])
  have HSZ := hide (show (w.alloc (.cells #[vc] 30)).heap.size = w.heap.size + 1 by simp)
  have HCL := hide (clone_any vr r _ (inRow_below hr hbox) (by omega))
  obtain ⟨xr, cr, rfl, hmr, hpr⟩ := hr
  obtain ⟨gr, or', rfl, hgr, hcr⟩ := hpr.resolve_left (by omega)
  have HRY := hide (hcr y hy); have HGR := hide hgr
  obtain ⟨xc, cc, rfl, hmc, -⟩ := hc
  unfold maxLen at hmr hmc
  have HDEL := hide fun (v : Value) (w' : World) (h : w'.ownsRow (w.heap.size + 1) 3 1 v r.length (ints r)) => (delete_any (w.heap.size + 1) v r y w' h hy : Calls Tryz.prog 102 #[v, .int .i64 y, .int .i64 ((y : Int) + 1)] w' _)
  obtain ⟨R, hRR⟩ : ∃ R, R = r.length := ⟨_, rfl⟩
  obtain ⟨C, hCC⟩ : ∃ C, C = c.length := ⟨_, rfl⟩
  have HRR := hide hRR; have HCC := hide hCC
  rw [← hRR] at hmr HR HCL HDEL hy ⊢
  rw [← hCC] at HCL
  rw [← hCC] at hmc HC HCX HBX HSZ hC1 ⊢
  clear hbox hpr hcr hgr hRR hCC hM
  go_enter Tryz.func57, Tryz.ntmps57
  go_wp2_with fail
  generalize hW : w.alloc (.cells #[Value.slice xc C cc] 30) = W1 at HSZ HBX HCX HCL ⊢
  clear hW
  refine HCL.out.mono ?_
  rintro e w2 ⟨v2, rfl, ho, hb⟩
  rw [HSZ.out] at ho
  have HO2 := hide ho; have HB2 := hide hb
  clear ho hb
  go_wp2_with fail
  refine (HDEL.out v2 w2 (by rw [HRR.out]; exact HO2.out)).mono ?_
  rintro e w3 ⟨vo, rfl, ho, hb⟩
  obtain ⟨ao, co, rfl⟩ := own_slice ho
  have HO3 := hide ho; have HB3 := hide hb
  clear ho hb HDEL HO2
  go_wp2
  have hs3 := HB3.out.size; have hs2 := HB2.out.size; have hs1 := HSZ.out
  have HB4 : Hid (Below (w.heap.size + 1) W1 (w3.alloc (Obj.cells #[Value.slice ao (r.eraseIdx y).length co] 30))) := hide (by
    have h2 := HB2.out
    rw [hs1] at h2
    exact (h2.trans HB3.out).alloc (by omega) _)
  have HVO := hide (show (w3.alloc (Obj.cells #[Value.slice ao (r.eraseIdx y).length co] 30)).cell? ⟨w3.heap.size, 0, none⟩ = some (Value.slice ao (r.eraseIdx y).length co) by simp [World.cell?_alloc_new])
  have HO4 := hide (inRow_own (own_below HO3.out ((Below.refl _ _).alloc (Nat.le_refl _) (Obj.cells #[Value.slice ao (r.eraseIdx y).length co] 30))))
  have HS4 := hide (show (w3.alloc (Obj.cells #[Value.slice ao (r.eraseIdx y).length co] 30)).heap.size = w3.heap.size + 1 by simp)
  have HVC : Hid ((w3.alloc (Obj.cells #[Value.slice ao (r.eraseIdx y).length co] 30)).cell? ⟨w.heap.size, 0, none⟩ = some (.slice xc C cc)) := hide (by
    rw [HB4.out.cell (p := ⟨w.heap.size, 0, none⟩) (Nat.lt_succ_self _)]; exact HCX.out)
  have HBA : Hid (Below w.heap.size w (w3.alloc (Obj.cells #[Value.slice ao (r.eraseIdx y).length co] 30))) := hide (HBX.out.trans (HB4.out.mono (Nat.le_succ _)))
  generalize w3.alloc (Obj.cells #[Value.slice ao (r.eraseIdx y).length co] 30) = W4 at HB4 HVO HO4 HS4 HVC HBA ⊢
  obtain ⟨qo, hqo⟩ : ∃ qo, qo = w3.heap.size := ⟨_, rfl⟩
  obtain ⟨qc, hqc⟩ : ∃ qc, qc = w.heap.size := ⟨_, rfl⟩
  rw [← hqo] at HVO HS4 ⊢
  have HQC : Hid (qc = w.heap.size) := hide hqc
  have HQ1 := hide (show qo < W4.heap.size by rw [HS4.out]; omega)
  have HQ2 := hide (show qc < W4.heap.size by rw [HS4.out]; omega)
  rw [← hqc] at HVC
  have HRV := below_cell HBA.out HGR.out HRY.out
  have HGR4 := hide (Nat.lt_of_lt_of_le HGR.out HBA.out.size)
  obtain ⟨a, ha⟩ : ∃ a, a = r[y] := ⟨_, rfl⟩
  have HA : Hid (a = r.getD y 0) := hide (by rw [ha, List.getD_eq_getElem?_getD, List.getElem?_eq_getElem (by rw [← HRR.out]; exact hy)]; rfl)
  rw [← ha] at HRV
  have HRV := hide HRV
  have HC4 := hide (inRow_below HC.out HBA.out)
  have HC5 : Hid (1 ≤ C ∧ C ≤ 5) := hide ⟨hC1, by rw [HCC.out]; exact HM.out.1⟩
  have HFIL := hide (rowsAt_filter r c y)
  rw [← HA.out, ← HCC.out] at HFIL
  clear HCL HB2 HB3 HO3 hs3 hs2 hs1 HB4 HSZ HBX HCX ha HRY hqo HGR
  obtain ⟨L, hL⟩ : ∃ L, L = (r.eraseIdx y).length := ⟨_, rfl⟩
  have HLL := hide hL
  rw [← hL] at HVO HO4 ⊢
  clear hL
  rw [← hqc]
  clear hqc
  have hyI : (y : Int) < R := by omega
  obtain ⟨fs, hfs⟩ : ∃ fs : List FactP, fs = [isV (.slice (some ⟨gr, or', none⟩) R cr), isV (.int .i64 y), isV (.pointer (some ⟨gr, or' + y, none⟩)), isV (.int .i64 a), isV (.slice xc C cc), isV (.int .i64 C), rowsT W4.heap.size (rowsLn C a), isV (.func (.func 106) #[] #[.pointer (some ⟨qo, 0, none⟩), .pointer (some ⟨qc, 0, none⟩)]), rowsT W4.heap.size (rowsAtL r c y)] := ⟨_, rfl⟩
  have hst : ∀ f ∈ fs, StableP f := by
    rw [hfs]; intro f hf
    simp only [List.mem_cons, List.not_mem_nil, or_false] at hf
    rcases hf with rfl | rfl | rfl | rfl | rfl | rfl | rfl | rfl | rfl <;> first | exact stable_v _ | exact stable_rowsT _ _
  subst hfs
  have hS1 : ∀ (w2 w3 : World), Below W4.heap.size W4.drew w2 → Below w2.heap.size w2 w3 → Below W4.heap.size W4.drew w3 := fun w2 w3 h k => h.trans (k.mono h.size)
  have hS0 : ∀ w2 : World, Below W4.heap.size W4.drew w2 → Below W4.heap.size W4 w2 := fun w2 h => (below_drew (Below.refl _ W4)).trans h
  refine wp_region_need (S := fun w2 => Below W4.heap.size W4.drew w2) [isV (.slice (some ⟨gr, or', none⟩) R cr), isV (.int .i64 y), isV (.pointer (some ⟨gr, or' + y, none⟩)), isV (.int .i64 a), isV (.slice xc C cc), isV (.int .i64 C), rowsT W4.heap.size (rowsLn C a), isV (.func (.func 106) #[] #[.pointer (some ⟨qo, 0, none⟩), .pointer (some ⟨qc, 0, none⟩)]), rowsT W4.heap.size (rowsAtL r c y)] [(0, .slice (some ⟨gr, or', none⟩) R cr), (2, .int .i64 y), (4, .pointer (some ⟨qc, 0, none⟩)), (7, .pointer (some ⟨qo, 0, none⟩))] _ _ 9 (by kernel_rfl) rfl rfl (by kernel_rfl) (by kernel_rfl) rfl (by kernel_rfl) ?base (Below.refl _ _) ?ob rfl ?fin
  case base =>
    intro t v ht
    simp only [List.lookup_cons, List.lookup_nil] at ht
    repeat' split at ht
    all_goals first | (cases ht; done) | (obtain rfl := Option.some.inj ht; rename_i hh; obtain rfl := eq_of_beq hh; rfl)
  case ob =>
    exact ⟨obn_of (by kernel_rfl) (obt_move (.slice (some ⟨gr, or', none⟩) R cr) rfl rfl rfl (srt_b 0 rfl)),
      obn_of (by kernel_rfl) (obt_move (.int .i64 y) rfl rfl rfl (srt_b 2 rfl)),
      obn_of (by kernel_rfl) (obt_two (.pointer (some ⟨gr, or' + y, none⟩)) rfl rfl (srt_j 0 rfl (by kernel_rfl) rfl) (srt_j 1 rfl (by kernel_rfl) rfl) (fun ρ w2 hS hx hy' => by have h1 := hyI; go_simp)),
      obn_of (by kernel_rfl) (obt_one (.int .i64 a) rfl rfl (srt_j 2 rfl (by kernel_rfl) rfl) (fun ρ w2 hS hx => by have hv := below_cell (hS0 _ hS) HGR4.out HRV.out; go_simp)),
      obn_of (by kernel_rfl) (obt_one (.slice xc C cc) rfl rfl (srt_b 4 rfl) (fun ρ w2 hS hx => by have hv := below_cell (hS0 _ hS) HQ2.out HVC.out; go_simp)),
      obn_of (by kernel_rfl) (obt_one (.int .i64 C) rfl rfl (srt_j 4 rfl (by kernel_rfl) rfl) (fun ρ w2 hS hx => by go_simp)),
      obn_of (by kernel_rfl) (obt_call hst [.int .i64 a, .int .i64 C] rfl Tryz.func105 (by kernel_rfl) (by kernel_rfl) rfl ⟨srt_j 3 rfl (by kernel_rfl) rfl, srt_j 5 rfl (by kernel_rfl) rfl, trivial⟩ (fun w2 hS => by
        refine (rowsWith_any a C w2 HC5.out).mono ?_
        rintro e w3 ⟨u, rfl, ho, hb3⟩
        rw [bitRows_rowsL C HC5.out] at ho
        exact ⟨u, rfl, hS1 _ _ hS hb3, hb3, matT_base (matT_own ho) hS.size⟩)),
      obn_of (by kernel_rfl) (obt_two (.func (.func 106) #[] #[.pointer (some ⟨qo, 0, none⟩), .pointer (some ⟨qc, 0, none⟩)]) rfl rfl (srt_b 7 rfl) (srt_b 4 rfl) (fun ρ w2 hS hx hy' => by go_simp)),
      fun ac w2 hS hB hD K hK => ⟨.inl rfl, run_call rfl Tryz.func104 (by kernel_rfl) (by kernel_rfl) #[ac.tmps.getD 20 undef, .func (.func 106) #[] #[.pointer (some ⟨qo, 0, none⟩), .pointer (some ⟨qc, 0, none⟩)]] (by
          have h21 : ac.tmps.getD 21 undef = .func (.func 106) #[] #[.pointer (some ⟨qo, 0, none⟩), .pointer (some ⟨qc, 0, none⟩)] := hD 7 21 rfl (by kernel_rfl)
          simp only [List.map_toArray, List.map_cons, List.map_nil]
          rw [show ac.eval (.tmp 21) = ac.tmps.getD 21 undef from rfl, h21]; rfl) (by
          have h20 : rowsT W4.heap.size (rowsLn C a) (ac.tmps.getD 20 undef) w2 := hD 6 20 rfl (by kernel_rfl)
          refine (delRows_any _ (rowsLn C a) 106 #[.pointer (some ⟨qo, 0, none⟩), .pointer (some ⟨qc, 0, none⟩)] (RowOf C a) (fun x => !restB (r.eraseIdx y) (subL c x)) W4.heap.size W4 w2 (enters_of Tryz.func106 (by kernel_rfl) rfl) h20 hS.size (Nat.le_refl _) (hS0 _ hS) (fun x hx => (mem_rowsL _ _ _).1 hx) (fun x u w5 hx hw hu => ?_)).mono ?_
          · exact rowsPred_any _ _ u (r.eraseIdx y) c x qo qc w5 (Nat.lt_of_lt_of_le HQ1.out hw.size) (Nat.lt_of_lt_of_le HQ2.out hw.size) (below_cell hw HQ1.out HVO.out) (below_cell hw HQ2.out HVC.out) (inRow_below HO4.out hw) (inRow_below HC4.out hw) hu (by rw [hx.1, HCC.out]) HM.out (mid_rowOf hx HC5.out.2)
          · rintro e w3 ⟨u, rfl, ho, hb3⟩
            rw [HFIL.out] at ho
            exact ⟨u, rfl, hK _ _ (hS.trans hb3) (fun j hj => absurd (needL_of hj) (by rw [show needL _ 8 = [] by kernel_rfl]; simp)) ho⟩)⟩,
      trivial⟩
  case fin =>
    intro a' w' h1 h2 h3 hS h4 K hK
    have hmat : rowsT W4.heap.size (rowsAtL r c y) (a'.tmps.getD 22 undef) w' := h4 8 22 rfl (by decide) (by kernel_rfl)
    obtain ⟨v22, hv22⟩ : ∃ v22, a'.tmps.getD 22 undef = v22 := ⟨_, rfl⟩
    rw [hv22] at hmat
    refine tail_assign rfl (show a'.eval (.tmp 22) = v22 from hv22) ?_ K hK
    have HMT := hide (matT_base hmat HBA.out.size)
    have HBE := hide (HBA.out.trans ((hS0 _ hS).mono HBA.out.size))
    clear hst h3 h4 hK hS1 hv22 hmat
    go_wp2
    exact bodyPost_ret (results_tmp rfl _ _ _) rfl ⟨v22, congrArg Ending.returned (set_get (d := 6) (n := 23) h1 (by decide)), HMT.out, HBE.out⟩
end Go.Proofs.YtcliiefedmiokaaGreat
/-
  l05Left and l02Copy of the model.
-/
namespace Go.Proofs.YtcliiefedmiokaaGreat
open Go.RowKit

/-- No column is asked for more than it has. -/
def leftOk (c row : List Int) : Bool := (List.range c.length).all fun x => decide (row.getD x 0 ≤ c.getD x 0)
theorem leftOk_yes {c row : List Int} (h : ∀ x, x < c.length → row.getD x 0 ≤ c.getD x 0) : leftOk c row = true := by
  unfold leftOk
  rw [List.all_eq_true]
  intro x hx
  simpa using h x (by simpa using hx)
theorem leftOk_no {c row : List Int} {x : Nat} (hx : x < c.length) (h : c.getD x 0 < row.getD x 0) : leftOk c row = false := by
  unfold leftOk
  rw [List.all_eq_false]
  exact ⟨x, by simpa using hx, by rw [decide_eq_true_eq]; omega⟩
theorem leftOk_iff {c row : List Int} : leftOk c row = true ↔ ∀ x, x < c.length → row.getD x 0 ≤ c.getD x 0 := by
  unfold leftOk
  rw [List.all_eq_true]
  constructor
  · intro h x hx; simpa using h x (by simpa using hx)
  · intro h x hx; simpa using h x (by simpa using hx)
/-- What l05Left answers. -/
def LeftRes (c row : List Int) (w : World) (e : Ending) (w' : World) : Prop :=
  ∃ v, e = .returned (.tuple #[v, .bool (leftOk c row)]) ∧ w'.ownsRow w.heap.size 3 1 v (if leftOk c row then subL c row else []).length (ints (if leftOk c row then subL c row else [])) ∧ Below w.heap.size w w'
theorem leftRes_yes {c row : List Int} {w w' : World} {v : Value} (h : leftOk c row = true) (ho : w'.ownsRow w.heap.size 3 1 v c.length (ints (subL c row))) (hb : Below w.heap.size w w') : LeftRes c row w (.returned (.tuple #[v, .bool true])) w' := by
  refine ⟨v, by rw [h], ?_, hb⟩
  rw [if_pos h, subL_len]; exact ho
theorem leftRes_no {c row : List Int} {w w' : World} (h : leftOk c row = false) (hb : Below w.heap.size w w') : LeftRes c row w (.returned (.tuple #[.slice none 0 0, .bool false])) w' := by
  refine ⟨_, by rw [h], ?_, hb⟩
  rw [h]; exact World.ownsRow_nil _ _ _ _
theorem subL_take {c row : List Int} {k : Nat} (h : k < c.length) : (subL c row).take (k + 1) = (subL c row).take k ++ [c.getD k 0 - row.getD k 0] := by
  rw [List.take_succ_eq_append_getElem (by rw [subL_len]; exact h)]
  congr 2
  exact tabL_at _

/-- A copy of rows that some call has made. -/
theorem take_snoc {α : Type} (m : List α) (k : Nat) (h : k < m.length) : m.take (k + 1) = m.take k ++ [m[k]] := List.take_succ_eq_append_getElem h
set_option maxRecDepth 100000 in
set_option maxHeartbeats 1000000 in
theorem copyRows_any (v : Value) (m : List (List Int)) (lo : Nat) (w : World) (hin : MatT w lo v m) (hm5 : m.length ≤ 10) (hrows : ∀ r ∈ m, r.length ≤ 10) :
    Calls Tryz.prog 61 #[v] w (MatRes m w) := by
  have HM := hide hin
  obtain ⟨a, n, c, hv'⟩ : ∃ a n c, v = .slice a n c := by obtain ⟨a, c, rfl, -⟩ := inMat_matT hin; exact ⟨a, _, c, rfl⟩
  have hnl : n = m.length := by
    obtain ⟨a, c, he, -⟩ := inMat_matT hin
    rw [hv'] at he; cases he; rfl
  subst hv'
  have HNL := hide hnl
  have HROWS := hide hrows
  have hn10 : n ≤ 10 := by omega
  have HTK := hide fun (k : Nat) (h : k < m.length) => take_snoc m k h
  clear hin hnl hm5 hrows
  go_enter Tryz.func61, Tryz.ntmps61
  go_wp2
  go_loopw [3, 9] (fun u i w' => ∃ (k : Nat) (v : Value), k ≤ n ∧ i = .int .i64 k ∧ v = u ∧ OwnMat w' w.heap.size w'.heap.size v (m.take k) ∧ Below w.heap.size w w') (fun _ i _ => n - (intOf i).toNat)
  case atStart => exact ⟨0, _, by omega, rfl, rfl, ⟨[], World.ownsRow_made (base := w.heap.size) w #[] 0 (Nat.le_refl _) (Nat.zero_le _) rfl, (fun k e => by simp [Value.ownBlock] at e; subst e; simp), (fun i h => absurd h (Nat.not_lt_zero _)), fun i j _ h => absurd h (Nat.not_lt_zero _)⟩, (Below.refl _ _).alloc (Nat.le_refl _) _⟩
  case round =>
    obtain ⟨k, v, hk, rfl, rfl, hown, hb⟩ := hrel
    have HO := hide hown; have HB := hide hb
    clear hown hb
    by_cases hlt : k < n
    · have hkI : (k : Int) < n := by omega
      have hkm : k < m.length := by rw [← HNL.out]; exact hlt
      have hsz := HB.out.size
      obtain ⟨vs, hv, hr⟩ := matT_below HM.out HB.out
      rw [← HNL.out] at hv
      obtain ⟨g, cap, he, -, -, -, -, -, -⟩ := own_some hv (by omega)
      cases he
      have hx := cell_held hv hlt
      have hrow := hr k hkm
      have HRL := hide (HROWS.out _ (List.getElem_mem hkm))
      have HTKK := hide (HTK.out k hkm)
      obtain ⟨row, hrw⟩ : ∃ row, row = m[k] := ⟨_, rfl⟩
      obtain ⟨uj, huj⟩ : ∃ uj, uj = vs.getD k undef := ⟨_, rfl⟩
      rw [← hrw] at HTKK HRL hrow
      rw [← huj] at hx hrow
      obtain ⟨xr, cr, he⟩ := own_slice hrow
      have HROW := hide hrow
      obtain ⟨M, hM⟩ : ∃ M, M = m.take k := ⟨_, rfl⟩
      have hML : M.length ≤ 10 := by rw [hM, List.length_take]; omega
      rw [← hM] at HO HTKK
      have hRL := HRL.out
      obtain ⟨L, hL⟩ : ∃ L, L = row.length := ⟨_, rfl⟩
      have HLL := hide hL
      rw [← hL] at he hRL
      clear hv hr hrw huj hM hrow hL
      subst he
      have HX : Hid ((wr.alloc (.cells #[] 3)).ownsRow wr.heap.size 3 1 (.slice (some ⟨wr.heap.size, 0, none⟩) 0 0) 0 []) := hide (World.ownsRow_made (base := wr.heap.size) wr #[] 0 (Nat.le_refl _) (Nat.zero_le _) rfl)
      have HAL := hide ((Below.refl wr.heap.size wr).alloc (Nat.le_refl _) (.cells #[] 3))
      have HSA : Hid ((wr.alloc (.cells #[] 3)).heap.size = wr.heap.size + 1) := hide (by simp)
      have HROWA := hide (own_below HROW.out HAL.out)
      have HOA := hide (ownMat_below HO.out HAL.out)
      go_wp2_with (first | (refine wpList_appendOwn 16 rfl HX.out row HROWA.out (.int .i64 0) rfl _ _ rfl Tryz.underlying30 Tryz.infoInt rfl (by decide) rfl rfl (by rw [← HLL.out]; omega) (by rw [HSA.out]; omega) ?_; intro u2 w2 hu2 hb2 hg2; rw [Nat.zero_add, List.nil_append, ← HLL.out] at hu2; obtain ⟨ua, uc, rfl⟩ := own_slice hu2; have HU2 := hide hu2; have O2 := hide (ownMat_grown HOA.out hg2 fun q e => by simp [Value.ownBlock] at e; omega); have B2' := hide ((HB.out.trans (HAL.out.mono hsz)).trans (hb2.mono hsz)); have hs2 := hb2.size; rw [HSA.out] at hs2; clear hu2 hb2 hg2; obtain ⟨vs, hv, hvh, hvr, hva⟩ := O2.out; have HV := hide hv; have HVR := hide hvr; have HVA := hide hva; clear hv hvh hvr hva) | (at_builtin; refine wpList_push HV.out (.slice ua L uc) (.slice none 0 0) rfl _ _ rfl Tryz.underlying22 Tryz.infoInts rfl (by decide) rfl rfl rfl (by omega) (by omega) ?_; intro v' w6 hown1 hb1 hg1))
      go_roundw
      case rel =>
        have hs6 := hb1.size
        have hp := ownMat_push (w := w2) (r := row) (hi := wr.heap.size) (hi' := w6.heap.size) HVR.out HVA.out HV.out (by rw [← HLL.out]; exact HU2.out) hsz (by omega) (by omega) hg1 hown1 (fun q e => (hown1.lt q e).2)
        rw [← HTKK.out] at hp
        exact ⟨k + 1, _, by omega, by go_num, rfl, hp, B2'.out.trans (hb1.mono (by omega))⟩
      case measure => simp [intOf]; omega
    · obtain rfl : k = n := by omega
      have HF : Hid (m.take k = m) := hide (by rw [HNL.out, List.take_length])
      rw [HF.out] at HO
      go_wp2
      go_ret
      exact ⟨_, rfl, HO.out, HB.out⟩
end Go.Proofs.YtcliiefedmiokaaGreat
/-
  l05All of the model: all images with given sums, one behind the other.
-/
namespace Go.Proofs.YtcliiefedmiokaaGreat
open Go.RowKit

theorem ownM2_matT {w : World} {lo : Nat} {v : Value} {m : List (List Int)} (h : OwnM2 w lo v m) : MatT w lo v m := by
  obtain ⟨hi, -, h⟩ := h
  exact matT_own h
/-- A list of integers that came in, or that some call has made. -/
def Keep (w0 w : World) (v : Value) (c : List Int) : Prop := InRow w0 v c ∨ ∃ B, w.ownsRow B 3 1 v c.length (ints c)
theorem keep_row {w0 w : World} {v : Value} {c : List Int} (h : Keep w0 w v c) (hb : Below w0.heap.size w0 w) : InRow w v c := by
  rcases h with h | ⟨B, h⟩
  · exact inRow_below h hb
  · exact inRow_own h
theorem keep_below {w0 w w' : World} {v : Value} {c : List Int} (h : Keep w0 w v c) (hb : Below w.heap.size w w') : Keep w0 w' v c := by
  rcases h with h | ⟨B, h⟩
  · exact .inl h
  · exact .inr ⟨B, own_below h hb⟩
theorem keep_kept {w0 w w' : World} {v u : Value} {c : List Int} {B e n : Nat} {xs : List Value} (h : Keep w0 w v c) (hu : w.ownsRow B e 1 u n xs) (hg : w.grownBy w' u.ownBlock) (hne : 3 ≠ e) : Keep w0 w' v c := by
  rcases h with h | ⟨B', h⟩
  · exact .inl h
  · exact .inr ⟨B', h.kept hg (own_types h hu hne)⟩

/-- What l05All answers. -/
def AllRes (lo : Nat) (vout : Value) (ms : List (List (List Int))) (w : World) (e : Ending) (w' : World) : Prop :=
  ∃ u, e = .returned u ∧ OwnImgs w' lo u ms ∧ w.grownBy w' vout.ownBlock ∧ (u.ownBlock = vout.ownBlock ∨ ∀ q, u.ownBlock = some q → w.heap.size ≤ q)

theorem rowsL_ten (n : Nat) (s : Int) (hn : n ≤ 5) : (rowsLn n s).length ≤ 10 := by
  by_cases hs : 0 ≤ s ∧ s ≤ 5
  · obtain ⟨k, rfl⟩ : ∃ k : Nat, s = k := ⟨s.toNat, by omega⟩
    have key : ∀ n : Nat, n ≤ 5 → ∀ k : Nat, k ≤ 5 → (rowsLn n (k : Int)).length ≤ 10 := by decide +kernel
    exact key n hn k (by omega)
  · rw [show rowsLn n s = [] from ?_]
    · simp
    · rw [List.eq_nil_iff_forall_not_mem]
      intro row hr
      obtain ⟨g1, g2, g3⟩ := (mem_rowsL _ _ _).1 hr
      have h0 := sum_nonneg01 row g2
      have h5 : ∀ l : List Int, (∀ x ∈ l, x = 0 ∨ x = 1) → l.sum ≤ l.length := fun l => by
        induction l with
        | nil => intro _; exact Int.le_refl _
        | cons x l ih =>
          intro h
          have := ih fun y hy => h y (List.mem_cons_of_mem _ hy)
          have := h x List.mem_cons_self
          rw [List.sum_cons, List.length_cons]; omega
      have := h5 row g2
      omega
/-- The images that begin with one of the rows. -/
def fromRows (r c : List Int) (l : List (List Int)) : List (List (List Int)) := l.flatMap fun row => if restB r (subL c row) then (allL r (subL c row)).map (row :: ·) else []
theorem fromRows_all (a : Int) (r c : List Int) : fromRows r c (rowsLn c.length a) = allL (a :: r) c := rfl
theorem fromRows_snoc (r c : List Int) (l : List (List Int)) (row : List Int) : fromRows r c (l ++ [row]) = fromRows r c l ++ if restB r (subL c row) then (allL r (subL c row)).map (row :: ·) else [] := by
  unfold fromRows
  rw [List.flatMap_append]; simp
theorem allL_len : ∀ (r c : List Int), c.length ≤ 5 → (allL r c).length ≤ 10 ^ r.length
  | [], c, _ => by simp [allL]
  | a :: r, c, hc => by
    rw [← fromRows_all]
    have h : ∀ l : List (List Int), (fromRows r c l).length ≤ l.length * 10 ^ r.length := fun l => by
      induction l with
      | nil => simp [fromRows]
      | cons x l ih =>
        unfold fromRows at ih ⊢
        rw [List.flatMap_cons, List.length_append, List.length_cons, Nat.add_mul, Nat.one_mul]
        have : (if restB r (subL c x) then (allL r (subL c x)).map (x :: ·) else []).length ≤ 10 ^ r.length := by
          split
          · rw [List.length_map]; exact allL_len r _ (by rw [subL_len]; exact hc)
          · simp
        omega
    refine Nat.le_trans (h _) ?_
    rw [List.length_cons, Nat.pow_succ, Nat.mul_comm]
    exact Nat.mul_le_mul_left _ (rowsL_ten _ _ hc)
theorem fromRows_len (r c : List Int) (hc : c.length ≤ 5) (l : List (List Int)) : (fromRows r c l).length ≤ l.length * 10 ^ r.length := by
  induction l with
  | nil => simp [fromRows]
  | cons x l ih =>
    unfold fromRows at ih ⊢
    rw [List.flatMap_cons, List.length_append, List.length_cons, Nat.add_mul, Nat.one_mul]
    have : (if restB r (subL c x) then (allL r (subL c x)).map (x :: ·) else []).length ≤ 10 ^ r.length := by
      split
      · rw [List.length_map]; exact allL_len r _ (by rw [subL_len]; exact hc)
      · simp
    omega
theorem leftOk_small {c row : List Int} (hc : ∀ x, x < c.length → 0 ≤ c.getD x 0 ∧ c.getD x 0 ≤ 5) (hl : c.length ≤ 5) (hr : ∀ x, x < c.length → row.getD x 0 = 0 ∨ row.getD x 0 = 1) (h : leftOk c row = true) : SmallL (subL c row) := by
  refine ⟨by rw [subL_len]; exact hl, fun i hi => ?_⟩
  have hi' : i < c.length := by rw [subL_len] at hi; exact hi
  have h1 := leftOk_iff.1 h i hi'
  have h2 := hc i hi'; have h3 := hr i hi'
  have e : (subL c row)[i] = c.getD i 0 - row.getD i 0 := tabL_at _
  rw [e]; omega
theorem rest_not {r c row : List Int} (h : leftOk c row = false) : restB r (subL c row) = false := by
  unfold leftOk at h
  rw [List.all_eq_false] at h
  obtain ⟨x, hx, h1⟩ := h
  have hx' : x < c.length := by simpa using hx
  have hneg : (subL c row).getD x 0 < 0 := by rw [subL_getD hx']; simp at h1; simp only [List.getD_eq_getElem?_getD]; omega
  have hlt : x < (subL c row).length := by rw [subL_len]; exact hx'
  have hmem : (subL c row).getD x 0 ∈ subL c row := by rw [List.getD_eq_getElem?_getD, List.getElem?_eq_getElem hlt]; exact List.getElem_mem hlt
  unfold restB
  split
  · rw [Bool.not_eq_false', List.any_eq_true]
    exact ⟨_, hmem, by unfold badB; rw [decide_eq_true hneg]; rfl⟩
  · cases he : existsOf r (subL c row) with
    | false => rfl
    | true =>
      exfalso
      obtain ⟨-, -, -, hcb, -⟩ := sumsOk_yes (existsOf_sums he)
      rw [List.any_eq_false] at hcb
      exact hcb _ hmem (by unfold badB; rw [decide_eq_true hneg]; rfl)
theorem sum_zero : ∀ (l : List Int), (∀ x ∈ l, 0 ≤ x) → ((l.sum = 0) ↔ ∀ x ∈ l, x = 0)
  | [], _ => by simp
  | x :: l, h => by
    have h1 := sum_zero l fun y hy => h y (List.mem_cons_of_mem _ hy)
    have h2 := h x List.mem_cons_self
    have h3 : 0 ≤ l.sum := by
      clear h1 h2
      induction l with
      | nil => exact Int.le_refl _
      | cons y l ih =>
        rw [List.sum_cons]
        have := h y (by simp)
        have := ih fun z hz => h z (by rcases List.mem_cons.1 hz with rfl | hz <;> simp [*])
        omega
    rw [List.sum_cons]
    constructor
    · intro h4 y hy
      rcases List.mem_cons.1 hy with rfl | hy
      · omega
      · exact h1.1 (by omega) y hy
    · intro h4
      have h5 := h4 x List.mem_cons_self
      have h6 := h1.2 fun y hy => h4 y (List.mem_cons_of_mem _ hy)
      omega
theorem rest_nil {l : List Int} (h : SmallL l) : restB [] l = (l.sum == 0) := by
  unfold restB
  rw [if_pos rfl, Bool.eq_iff_iff, beq_iff_eq, sum_zero l (fun x hx => by obtain ⟨i, hi, rfl⟩ := List.getElem_of_mem hx; exact (h.2 i hi).1), Bool.not_eq_true', List.any_eq_false]
  constructor
  · intro h1 x hx
    have := h1 x hx
    simp only [badB, Bool.or_eq_true, decide_eq_true_eq, not_or] at this
    omega
  · intro h1 x hx
    rw [h1 x hx]; decide
theorem rest_cons {b : Int} {r l : List Int} : restB (b :: r) l = existsOf (b :: r) l := by unfold restB; rw [if_neg (by simp)]

theorem fromRows_no {r c row : List Int} {L : List (List Int)} {j : Nat} (h : L.take (j + 1) = L.take j ++ [row]) (hr : restB r (subL c row) = false) : fromRows r c (L.take (j + 1)) = fromRows r c (L.take j) := by
  rw [h, fromRows_snoc, hr]; simp
theorem fromRows_yes {r c row : List Int} {L : List (List Int)} {j : Nat} (d : List (List Int)) (ms : List (List (List Int))) (h : L.take (j + 1) = L.take j ++ [row]) (hr : restB r (subL c row) = true) :
    ms ++ (fromRows r c (L.take (j + 1))).map (d ++ ·) = (ms ++ (fromRows r c (L.take j)).map (d ++ ·)) ++ (allL r (subL c row)).map ((d ++ [row]) ++ ·) := by
  rw [h, fromRows_snoc, hr, if_pos rfl, List.map_append, List.map_map, List.append_assoc]
  congr 3
  funext m
  simp
theorem below_grown0 {w0 w w' : World} {lo : Nat} {v : Value} {e n : Nat} {xs : List Value} (hb : Below w0.heap.size w0 w) (hv : w.ownsRow lo e 1 v n xs) (hg : w.grownBy w' v.ownBlock) (h0 : w0.heap.size ≤ lo) : Below w0.heap.size w0 w' :=
  hb.grown hg hb.size fun k hk => Nat.le_trans h0 (hv.lt k hk).1
/-- 'append(m, row)' at rows that the call has made. -/
theorem exec_snocMat {ρ : Operand → Value} {o : Oper} {w : World} {x y : Operand} {b lo hi B0 : Nat} {v urow : Value} {row : List Int} {m : List (List Int)}
    (ho : o.op = .call { callee := .builtin .append, args := #[x, y], argTypes := #[22, 22] }) (hx : ρ x = v) (hy : ρ y = .slice (some ⟨b, 0, none⟩) 1 1)
    (hm : OwnMat w lo hi v m) (hown : w.ownsRow b 30 1 (.slice (some ⟨b, 0, none⟩) 1 1) 1 [urow]) (hrow : w.ownsRow B0 3 1 urow row.length (ints row)) (hB : B0 ≤ lo) (hlo : lo ≤ w.heap.size) (h5 : m.length ≤ 1000) :
    ∃ v' w', (execOp ρ o).run Tryz.prog w = .ok (.value v') w' ∧ MatT w' B0 v' (m ++ [row]) ∧ w.grownBy w' v.ownBlock := by
  obtain ⟨vs, hv, hvh, hvr, hva⟩ := hm
  have hvl : vs.length = m.length := by have := hv.1; omega
  obtain ⟨i0, hi0', hz0, hz1, hz2⟩ := info_parts Tryz.infoInts
  obtain ⟨v', w', hr, g1, g2, -⟩ := run_append_own (P := Tryz.prog) w lo 22 o.type 30 i0 (.slice none 0 0) 1 24 Tryz.underlying22 hi0' hz0 hz1 hz2 rfl (by decide) v m.length vs hv ⟨b, 0, none⟩ 1 1 [urow] (by simp) (fun j u hj => by
      rw [addr_add, Nat.zero_add]
      have hj' : j < 1 := by have := (List.getElem?_eq_some_iff.1 hj).1; simpa using this
      rw [hown.cellAt j (by omega), hj]) (fun u hu => by
      obtain rfl : u = urow := by simpa using hu
      obtain ⟨a, c, e⟩ := own_slice hrow
      rw [e]; rfl) (by unfold maxLen; omega) (by omega) hlo
  refine ⟨v', w', ?_, ⟨vs ++ [urow], ?_, fun i h => ?_⟩, g2⟩
  · unfold execOp
    simp only [ho, resolve, invoke, builtin, Sem.run_bind, Sem.run_pure, Result.andThen_ok, List.map_toArray, List.map_cons, List.map_nil, hx, hy, hr]
  · have := own_base (base' := B0) g1 hB
    rw [List.length_append]; exact this
  · by_cases e : i < m.length
    · have e1 : (vs ++ [urow]).getD i undef = vs.getD i undef := by simp [List.getD_eq_getElem?_getD, List.getElem?_append_left (show i < vs.length by omega)]
      rw [e1, List.getElem_append_left e]
      have h0 := (hvr i e).1
      exact own_base (h0.kept g2 (own_types h0 hv (by decide))) hB
    · obtain rfl : i = m.length := by simp at h; omega
      have e1 : (vs ++ [urow]).getD m.length undef = urow := by rw [← hvl]; simp [List.getD_eq_getElem?_getD]
      rw [e1, show (m ++ [row])[m.length] = row by simp]
      exact hrow.kept g2 (own_types hrow hv (by decide))
/-- What the call for the rows that are left answers. -/
def resF (W : World) (lo : Nat) (v : Value) (ms : List (List (List Int))) : FactP := fun u w' => OwnImgs w' lo u ms ∧ W.grownBy w' v.ownBlock ∧ (u.ownBlock = v.ownBlock ∨ ∀ q, u.ownBlock = some q → W.heap.size ≤ q)
theorem stable_resF (W : World) (lo : Nat) (v : Value) (ms : List (List (List Int))) : StableP (resF W lo v ms) := fun _ _ _ hb h => ⟨ownImgs_below h.1 hb, grown_trans h.2.1 (grown_of_below hb _), h.2.2⟩
end Go.Proofs.YtcliiefedmiokaaGreat
/-
  leastRow, LeastImage of the program.
-/
namespace Go.Proofs.YtcliiefedmiokaaGreat
open Go.RowKit Go.Shelf Mx

theorem mid_img {r c : List Int} (hr : r.length ≤ 5) (hc : c.length ≤ 5) (h : HasImg r c) : Mid1000 c := by
  obtain ⟨m, hm⟩ := h
  refine ⟨hc, fun x hx => ?_⟩
  have h1 := hm.col x hx
  have h2 := cell_le (f := fun y => m y x) (n := r.length) fun y hy => hm.cell y x hy hx
  omega
theorem firstRows_head {a : Int} {r c : List Int} (hne : firstRows a r c ≠ []) : ∃ l, firstRows a r c = leastCh (a :: r) c :: l := by
  show ∃ q, firstRows a r c = (firstRows a r c).headD [] :: q
  cases e : firstRows a r c with
  | nil => exact absurd e hne
  | cons x q => exact ⟨q, rfl⟩
set_option maxHeartbeats 1000000 in
theorem leastRow_any (vr vc : Value) (a : Int) (r c : List Int) (w : World) (hr : InRow w vr (a :: r)) (hc : InRow w vc c) (hr5 : (a :: r).length ≤ 5) (hC : 1 ≤ c.length ∧ c.length ≤ 5) (hI : HasImg (a :: r) c) :
    Calls Tryz.prog 49 #[vr, vc] w (IntsRes (leastCh (a :: r) c) w) := by
  have HRA := hide (rowsAt_any vr vc (a :: r) c 0 w hr hc (by simp) hr5 hC.1 (mid_img hr5 hC.2 hI))
  rw [rowsAt_zero] at HRA
  have hne := firstRows_ne (by simp at hr5; omega) hC hI
  obtain ⟨l, hl⟩ := firstRows_head hne
  rw [hl] at HRA
  obtain ⟨row, hrow⟩ : ∃ row, row = leastCh (a :: r) c := ⟨_, rfl⟩
  rw [← hrow] at HRA ⊢
  obtain ⟨xr, cr, hvr, -, -⟩ := hr
  obtain ⟨xc, cc, hvc, -, -⟩ := hc
  subst hvr hvc
  obtain ⟨n, hn⟩ : ∃ n, n = (a :: r).length := ⟨_, rfl⟩
  rw [← hn] at HRA ⊢
  clear hne hl hrow hI hn hr5
  go_enter Tryz.func49, Tryz.ntmps49
  go_wp2_with fail
  refine HRA.out.mono ?_
  rintro e w1 ⟨u, rfl, ⟨vs, hv, hrows⟩, hb⟩
  obtain ⟨g, cap, rfl, -, -, -, -, -, -⟩ := own_some hv (by simp)
  have hx := cell_held hv (show 0 < (row :: l).length by simp)
  have HROW := hide (hrows 0 (by simp))
  rw [List.getElem_cons_zero] at HROW
  obtain ⟨u0, hu0⟩ : ∃ u0, u0 = vs.getD 0 undef := ⟨_, rfl⟩
  rw [← hu0] at hx HROW
  have HB := hide hb
  obtain ⟨k, hk⟩ : ∃ k, k = (row :: l).length := ⟨_, rfl⟩
  have hk1 : 0 < k := by rw [hk]; simp
  obtain ⟨a0, c0, he⟩ := own_slice HROW.out
  rw [← hk]
  clear hv hrows hb hk hu0
  subst he
  go_wp2
  go_ret
  exact ⟨_, rfl, HROW.out, HB.out⟩
/-- What holds while the least image is constructed. -/
def InvL (r c : List Int) : Prop := r.length ≤ 5 ∧ (1 ≤ c.length ∧ c.length ≤ 5) ∧ HasImg r c
theorem invL_start {r c : List Int} (h : existsOf r c = true) : InvL r c := by
  obtain ⟨hr, hc, -, -, -⟩ := sumsOk_yes (existsOf_sums h)
  exact ⟨hr.2, hc, img_of_exists h⟩
theorem choice_least : Choice 49 leastCh InvL where
  enters := enters_of Tryz.func49 (by kernel_rfl) rfl
  calls a r c vr vc w hI hr hc := leastRow_any vr vc a r c w hr.1 hc hI.1 hI.2.1 hI.2.2
  next a r c hI := by
    obtain ⟨h1, h2, h3⟩ := hI
    have hm := mid_img h1 h2.2 h3
    rw [List.length_cons] at h1
    obtain ⟨g1, g2⟩ := leastCh_spec (by omega) h2 h3
    exact ⟨by omega, h2.2, g1.1, ⟨by omega, by rw [subL_len]; exact h2, g2⟩, hm.2, fun x hx => by have := rowOf_cell g1 hx; omega⟩
set_option maxHeartbeats 400000 in
theorem implLeast_any (va vb : Value) (r c : List Int) (w : World) (ha : RowC w va r) (hb : RowC w vb c) :
    Calls Tryz.prog 16 #[va, vb] w (MatRes2 (if existsOf r c = true then imgL leastCh r c else []) (existsOf r c) w) := by
  have HA := hide ha; have HB := hide hb; have HA1 := hide ha.1; have HB1 := hide hb.1
  cases h : existsOf r c with
  | false =>
    rw [if_neg (by decide)]
    have H := hide h
    clear ha hb h
    go_enter Tryz.func16, Tryz.ntmps16
    go_wp2_with ((with_reducible refine (implExists_any va vb r c _ HA1.out HB1.out).mono ?_); rw [H.out]; rintro e w1 ⟨rfl, b1⟩; have B1 := hide b1; clear b1)
    go_ret2
    exact matRes2_nil B1.out
  | true =>
    rw [if_pos rfl]
    have H := hide h
    have HI := hide (invL_start h)
    clear ha hb h
    go_enter Tryz.func16, Tryz.ntmps16
    go_wp2_with (first | ((with_reducible refine (implExists_any va vb r c _ HA1.out HB1.out).mono ?_); rw [H.out]; rintro e w1 ⟨rfl, b1⟩; have B1 := hide b1; clear b1) | (go_at_call 47; refine (imageBy_any 49 leastCh InvL choice_least r c va vb _ HI.out (rowC_below HA.out B1.out) (inRow_below HB1.out B1.out)).mono ?_; rintro e w2 ⟨v, rfl, ho, hb⟩; have HO := hide (ownMat_mono ho B1.out.size (Nat.le_refl _)); have B2 := hide (B1.out.trans (hb.mono B1.out.size)); clear ho hb))
    go_ret2
    exact ⟨_, rfl, HO.out, B2.out⟩
/-- What CanPlace answers. -/
def placeOf (r c : List Int) (y x v : Int) : Bool := existsOf r c && decide (0 ≤ y ∧ y < r.length ∧ 0 ≤ x ∧ x < c.length) && (rowsAtL r c y.toNat).any fun row => row.getD x.toNat 0 == v
end Go.Proofs.YtcliiefedmiokaaGreat
