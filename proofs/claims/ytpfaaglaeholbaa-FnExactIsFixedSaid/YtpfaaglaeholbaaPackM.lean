/-
  Texts of this claim, one behind the other: Rest, LeastI, PlaceI, SpecT, ColS, Eq, Same, Put, Dist.
-/
import Derived.Test.YtpfaaglaeholbaaPackK
import Derived.Test.YtpfaaglaeholbaaPackF
import Derived.Test.YtpfaaglaeholbaaPackL
import Derived.Test.YtpfaaglaeholbaaPackI
import Derived.Test.YtpfaaglaeholbaaPackH
import Derived.Test.YtpfaaglaeholbaaPackB
/-
  restExists, the predicate of rowsAt, rowsAt, leastRow of the program.
-/
namespace Go.Proofs.Ytpfaaglaeholbaa
open Go.RowKit Go.Shelf

theorem bitRows_rowsL (C : Nat) (hC : 1 ≤ C ∧ C ≤ 5) (s : Int) : bitRows C s (2 ^ C) = rowsLn C s := by
  obtain ⟨h1, h2⟩ := hC
  by_cases hs : 0 ≤ s ∧ s ≤ 5
  · obtain ⟨k, rfl⟩ : ∃ k : Nat, s = k := ⟨s.toNat, by omega⟩
    have hk : k ≤ 5 := by omega
    have key : ∀ C : Nat, C ≤ 5 → ∀ k : Nat, k ≤ 5 → bitRows C (k : Int) (2 ^ C) = rowsLn C (k : Int) := by decide +kernel
    exact key C h2 k hk
  · have e1 : rowsLn C s = [] := by
      rw [List.eq_nil_iff_forall_not_mem]
      intro row hr
      obtain ⟨g1, g2, g3⟩ := (mem_rowsL _ _ _).1 hr
      have h0 := sum_nonneg01 row g2
      have h5 : ∀ l : List Int, (∀ x ∈ l, x = 0 ∨ x = 1) → l.sum ≤ l.length := fun l => by
        induction l with
        | nil => intro _; exact Int.le_refl _
        | cons x l ih =>
          intro h
          have := ih fun y hy => h y (List.mem_cons_of_mem _ hy)
          have := h x List.mem_cons_self
          rw [List.sum_cons, List.length_cons]; omega
      have := h5 row g2
      omega
    have e2 : bitRows C s (2 ^ C) = [] := by
      unfold bitRows
      rw [List.map_eq_nil_iff, List.filter_eq_nil_iff]
      intro n _
      have : pop5 n ≤ 5 := by unfold pop5; omega
      simp only [decide_eq_true_eq]; omega
    rw [e1, e2]

set_option maxHeartbeats 400000 in
theorem restExists_any (va vb : Value) (r c : List Int) (w : World) (ha : InRow w va r) (hb : InRow w vb c) :
    Calls Try.prog 131 #[va, vb] w fun e w' => e = .returned (.bool (restB r c)) ∧ Below w.heap.size w w' := by
  have HE := hide (implExists_any va vb r c w ha hb); have HS := hide (sumsInRange_any vb c 0 w hb)
  obtain ⟨a, ca, rfl, hm, -⟩ := ha
  unfold maxLen at hm
  unfold restB
  cases r with
  | nil =>
    rw [if_pos rfl]
    clear hb HE
    simp only [List.length_nil] at hm ⊢
    go_enter Try.func131, Try.ntmps131
    go_wp2_with (go_at_call 107; refine HS.out.mono ?_; rintro e w1 ⟨rfl, b1⟩; have B1 := hide b1; clear b1)
    go_ret
    exact ⟨rfl, B1.out⟩
  | cons x l =>
    rw [if_neg (by simp)]
    clear hb HS
    obtain ⟨n, hn⟩ : ∃ n, n = (x :: l).length := ⟨_, rfl⟩
    have hn1 : 1 ≤ n := by rw [hn]; simp
    rw [← hn] at hm HE ⊢
    have hn0 : ((n : Int) == 0) = false := beq_eq_false_iff_ne.2 (by omega)
    clear hn
    go_enter Try.func131, Try.ntmps131
    go_wp2_with (go_at_call 113; refine HE.out.mono ?_; rintro e w1 ⟨rfl, b1⟩; have B1 := hide b1; clear b1)
    go_ret
    exact ⟨rfl, B1.out⟩

/-- Numbers that sumsWithout can reckon with. -/
def Mid1000 (c : List Int) : Prop := c.length ≤ 5 ∧ ∀ x, x < c.length → -1000 ≤ c.getD x 0 ∧ c.getD x 0 ≤ 1000
theorem mid_rowOf {n : Nat} {a : Int} {row : List Int} (h : RowOf n a row) (hn : n ≤ 5) : Mid1000 row := by
  refine ⟨by rw [h.1]; exact hn, fun x hx => ?_⟩
  have := rowOf_cell h (x := x) (by rw [← h.1]; exact hx)
  omega
set_option maxRecDepth 100000 in
set_option maxHeartbeats 1000000 in
theorem rowsPred_any (vo vc u : Value) (o c row : List Int) (qo qc : Nat) (w : World) (hqo : qo < w.heap.size) (hqc : qc < w.heap.size) (hvo : w.cell? ⟨qo, 0, none⟩ = some vo) (hvc : w.cell? ⟨qc, 0, none⟩ = some vc) (hO : InRow w vo o) (hC : InRow w vc c) (hU : InRow w u row) (hl : row.length = c.length) (hM : Mid1000 c) (hR : Mid1000 row) :
    Calls Try.prog 130 #[u, .pointer (some ⟨qo, 0, none⟩), .pointer (some ⟨qc, 0, none⟩)] w fun e w' => e = .returned (.bool (!restB o (subL c row))) ∧ Below w.heap.size w w' := by
  have HO := hide hO; have HC := hide hC; have HU := hide hU; have HL := hide hl; have HM := hide hM; have HR := hide hR; have HQO := hide hqo; have HQC := hide hqc; have HVO := hide hvo; have HVC := hide hvc
  obtain ⟨ao, no, co, hvo'⟩ : ∃ a n c, vo = .slice a n c := by obtain ⟨a, c, rfl, -⟩ := hO; exact ⟨a, _, c, rfl⟩
  obtain ⟨ac, nc, cc, hvc'⟩ : ∃ a n c, vc = .slice a n c := by obtain ⟨a, c, rfl, -⟩ := hC; exact ⟨a, _, c, rfl⟩
  obtain ⟨au, nu, cu, hu'⟩ : ∃ a n c, u = .slice a n c := by obtain ⟨a, c, rfl, -⟩ := hU; exact ⟨a, _, c, rfl⟩
  obtain ⟨b, hb⟩ : ∃ b, b = restB o (subL c row) := ⟨_, rfl⟩
  have HBB := hide hb
  rw [← hb]
  clear hO hC hU hl hM hR hqo hqc hvo hvc hb
  subst hvo' hvc' hu'
  go_enter Try.func130, Try.ntmps130
  go_wp2
  obtain ⟨fs, hfs⟩ : ∃ fs : List FactP, fs = [isV (.slice ao no co), isV (.slice ac nc cc), isV (.slice au nu cu), ownI w.heap.size (subL c row), isV (.bool b), isV (.bool (!b))] := ⟨_, rfl⟩
  have hst : ∀ f ∈ fs, StableP f := by
    rw [hfs]; intro f hf
    simp only [List.mem_cons, List.not_mem_nil, or_false] at hf
    rcases hf with rfl | rfl | rfl | rfl | rfl | rfl <;> first | exact stable_v _ | exact stable_ownI _ _
  subst hfs
  have hS1 : ∀ (w2 w3 : World), Below w.heap.size w.drew w2 → Below w2.heap.size w2 w3 → Below w.heap.size w.drew w3 := fun w2 w3 h k => h.trans (k.mono h.size)
  have hS0 : ∀ w2 : World, Below w.heap.size w.drew w2 → Below w.heap.size w w2 := fun w2 h => (below_drew (Below.refl _ w)).trans h
  refine wp_region_tail (S := fun w2 => Below w.heap.size w.drew w2) [isV (.slice ao no co), isV (.slice ac nc cc), isV (.slice au nu cu), ownI w.heap.size (subL c row), isV (.bool b), isV (.bool (!b))] [(0, .slice au nu cu), (1, .pointer (some ⟨qo, 0, none⟩)), (2, .pointer (some ⟨qc, 0, none⟩))] _ _ 6 (by kernel_rfl) rfl rfl (by kernel_rfl) (by kernel_rfl) rfl (by kernel_rfl) ?base (Below.refl _ _) ?ob rfl ?fin
  case base =>
    intro t v ht
    simp only [List.lookup_cons, List.lookup_nil] at ht
    repeat' split at ht
    all_goals first | (cases ht; done) | (obtain rfl := Option.some.inj ht; rename_i hh; obtain rfl := eq_of_beq hh; rfl)
  case ob =>
    exact ⟨obt_one (.slice ao no co) rfl rfl (srt_b 1 rfl) (fun ρ w2 hS hx => by have hv := below_cell (hS0 _ hS) HQO.out HVO.out; go_simp),
      obt_one (.slice ac nc cc) rfl rfl (srt_b 2 rfl) (fun ρ w2 hS hx => by have hv := below_cell (hS0 _ hS) HQC.out HVC.out; go_simp),
      obt_move (.slice au nu cu) rfl rfl rfl (srt_b 0 rfl),
      obt_call hst [.slice ac nc cc, .slice au nu cu] rfl Try.func112 (by kernel_rfl) (by kernel_rfl) rfl ⟨srt_j 1 rfl (by kernel_rfl) rfl, srt_j 2 rfl (by kernel_rfl) rfl, trivial⟩ (fun w2 hS => by
        refine (sumsWithout_any _ _ c row w2 (inRow_below HC.out (hS0 _ hS)) (inRow_below HU.out (hS0 _ hS)) HL.out HM.out.1 HM.out.2 (fun x hx => HR.out.2 x (by rw [HL.out]; exact hx))).mono ?_
        rintro e w3 ⟨u, rfl, ho, hb3⟩
        exact ⟨u, rfl, hS1 _ _ hS hb3, hb3, own_base ho hS.size⟩),
      obt_call_r hst 3 rfl Try.func131 (by kernel_rfl) (by kernel_rfl) rfl rfl (by kernel_rfl) (srt_j 0 rfl (by kernel_rfl) rfl) (fun v w2 hS hf => by
        refine (restExists_any _ v o (subL c row) w2 (inRow_below HO.out (hS0 _ hS)) (inRow_own hf)).mono ?_
        rintro e w3 ⟨rfl, hb3⟩
        rw [← HBB.out]
        exact ⟨_, rfl, hS1 _ _ hS hb3, hb3, rfl⟩),
      obt_one (.bool (!b)) rfl rfl (srt_j 4 rfl (by kernel_rfl) rfl) (fun ρ w2 hS hx => by go_simp),
      trivial⟩
  case fin =>
    intro a' w' h1 h2 h3 hS h4 K hK
    have hv : a'.eval (.tmp 10) = .bool (!b) := h4 5 10 rfl (by decide)
    refine tail_assign rfl hv ?_ K hK
    go_wp2
    exact bodyPost_ret (results_tmp rfl _ _ _) rfl ⟨congrArg Ending.returned (set_get (n := 11) h1 (by decide)), hS0 _ hS⟩
def rowsT (B : Nat) (m : List (List Int)) : FactP := fun u w2 => MatT w2 B u m
theorem stable_rowsT (B : Nat) (m : List (List Int)) : StableP (rowsT B m) := fun _ _ _ hb h => matT_below h hb
theorem rowsAt_filter (r c : List Int) (y : Nat) : ((rowsLn c.length (r.getD y 0)).filter fun x => !(!restB (r.eraseIdx y) (subL c x))) = rowsAtL r c y := by
  unfold rowsAtL
  congr 1
  funext x; rw [Bool.not_not]
set_option maxRecDepth 100000 in
set_option maxHeartbeats 2000000 in
theorem rowsAt_any (vr vc : Value) (r c : List Int) (y : Nat) (w : World) (hr : InRow w vr r) (hc : InRow w vc c) (hy : y < r.length) (hr5 : r.length ≤ 5) (hC1 : 1 ≤ c.length) (hM : Mid1000 c) :
    Calls Try.prog 111 #[vr, vc, .int .i64 y] w (RowsRes w.heap.size (rowsAtL r c y) w) := by
  have HR := hide hr; have HC := hide hc; have HM := hide hM
  have hbox := (Below.refl w.heap.size w).alloc (Nat.le_refl _) (.cells #[vc] 44)
  have HBX := hide hbox
  have HCX := hide (show (w.alloc (.cells #[vc] 44)).cell? ⟨w.heap.size, 0, none⟩ = some vc by simp [World.cell?_alloc_new])
  have HSZ := hide (show (w.alloc (.cells #[vc] 44)).heap.size = w.heap.size + 1 by simp)
  have HCL := hide (clone_any vr r _ (inRow_below hr hbox) (by omega))
  obtain ⟨xr, cr, rfl, hmr, hpr⟩ := hr
  obtain ⟨gr, or', rfl, hgr, hcr⟩ := hpr.resolve_left (by omega)
  have HRY := hide (hcr y hy); have HGR := hide hgr
  obtain ⟨xc, cc, rfl, hmc, -⟩ := hc
  unfold maxLen at hmr hmc
  have HDEL := hide fun (v : Value) (w' : World) (h : w'.ownsRow (w.heap.size + 1) 3 1 v r.length (ints r)) => (delete_any (w.heap.size + 1) v r y w' h hy : Calls Try.prog 127 #[v, .int .i64 y, .int .i64 ((y : Int) + 1)] w' _)
  obtain ⟨R, hRR⟩ : ∃ R, R = r.length := ⟨_, rfl⟩
  obtain ⟨C, hCC⟩ : ∃ C, C = c.length := ⟨_, rfl⟩
  have HRR := hide hRR; have HCC := hide hCC
  rw [← hRR] at hmr HR HCL HDEL hy ⊢
  rw [← hCC] at HCL
  rw [← hCC] at hmc HC HCX HBX HSZ hC1 ⊢
  clear hbox hpr hcr hgr hRR hCC hM
  go_enter Try.func111, Try.ntmps111
  go_wp2_with fail
  generalize hW : w.alloc (.cells #[Value.slice xc C cc] 44) = W1 at HSZ HBX HCX HCL ⊢
  clear hW
  refine HCL.out.mono ?_
  rintro e w2 ⟨v2, rfl, ho, hb⟩
  rw [HSZ.out] at ho
  have HO2 := hide ho; have HB2 := hide hb
  clear ho hb
  go_wp2_with fail
  refine (HDEL.out v2 w2 (by rw [HRR.out]; exact HO2.out)).mono ?_
  rintro e w3 ⟨vo, rfl, ho, hb⟩
  obtain ⟨ao, co, rfl⟩ := own_slice ho
  have HO3 := hide ho; have HB3 := hide hb
  clear ho hb HDEL HO2
  go_wp2
  have hs3 := HB3.out.size; have hs2 := HB2.out.size; have hs1 := HSZ.out
  have HB4 : Hid (Below (w.heap.size + 1) W1 (w3.alloc (Obj.cells #[Value.slice ao (r.eraseIdx y).length co] 44))) := hide (by
    have h2 := HB2.out
    rw [hs1] at h2
    exact (h2.trans HB3.out).alloc (by omega) _)
  have HVO := hide (show (w3.alloc (Obj.cells #[Value.slice ao (r.eraseIdx y).length co] 44)).cell? ⟨w3.heap.size, 0, none⟩ = some (Value.slice ao (r.eraseIdx y).length co) by simp [World.cell?_alloc_new])
  have HO4 := hide (inRow_own (own_below HO3.out ((Below.refl _ _).alloc (Nat.le_refl _) (Obj.cells #[Value.slice ao (r.eraseIdx y).length co] 44))))
  have HS4 := hide (show (w3.alloc (Obj.cells #[Value.slice ao (r.eraseIdx y).length co] 44)).heap.size = w3.heap.size + 1 by simp)
  have HVC : Hid ((w3.alloc (Obj.cells #[Value.slice ao (r.eraseIdx y).length co] 44)).cell? ⟨w.heap.size, 0, none⟩ = some (.slice xc C cc)) := hide (by
    rw [HB4.out.cell (p := ⟨w.heap.size, 0, none⟩) (Nat.lt_succ_self _)]; exact HCX.out)
  have HBA : Hid (Below w.heap.size w (w3.alloc (Obj.cells #[Value.slice ao (r.eraseIdx y).length co] 44))) := hide (HBX.out.trans (HB4.out.mono (Nat.le_succ _)))
  generalize w3.alloc (Obj.cells #[Value.slice ao (r.eraseIdx y).length co] 44) = W4 at HB4 HVO HO4 HS4 HVC HBA ⊢
  obtain ⟨qo, hqo⟩ : ∃ qo, qo = w3.heap.size := ⟨_, rfl⟩
  obtain ⟨qc, hqc⟩ : ∃ qc, qc = w.heap.size := ⟨_, rfl⟩
  rw [← hqo] at HVO HS4 ⊢
  have HQC : Hid (qc = w.heap.size) := hide hqc
  have HQ1 := hide (show qo < W4.heap.size by rw [HS4.out]; omega)
  have HQ2 := hide (show qc < W4.heap.size by rw [HS4.out]; omega)
  rw [← hqc] at HVC
  have HRV := below_cell HBA.out HGR.out HRY.out
  have HGR4 := hide (Nat.lt_of_lt_of_le HGR.out HBA.out.size)
  obtain ⟨a, ha⟩ : ∃ a, a = r[y] := ⟨_, rfl⟩
  have HA : Hid (a = r.getD y 0) := hide (by rw [ha, List.getD_eq_getElem?_getD, List.getElem?_eq_getElem (by rw [← HRR.out]; exact hy)]; rfl)
  rw [← ha] at HRV
  have HRV := hide HRV
  have HC4 := hide (inRow_below HC.out HBA.out)
  have HC5 : Hid (1 ≤ C ∧ C ≤ 5) := hide ⟨hC1, by rw [HCC.out]; exact HM.out.1⟩
  have HFIL := hide (rowsAt_filter r c y)
  rw [← HA.out, ← HCC.out] at HFIL
  clear HCL HB2 HB3 HO3 hs3 hs2 hs1 HB4 HSZ HBX HCX ha HRY hqo HGR
  obtain ⟨L, hL⟩ : ∃ L, L = (r.eraseIdx y).length := ⟨_, rfl⟩
  have HLL := hide hL
  rw [← hL] at HVO HO4 ⊢
  clear hL
  rw [← hqc]
  clear hqc
  have hyI : (y : Int) < R := by omega
  obtain ⟨fs, hfs⟩ : ∃ fs : List FactP, fs = [isV (.slice (some ⟨gr, or', none⟩) R cr), isV (.int .i64 y), isV (.pointer (some ⟨gr, or' + y, none⟩)), isV (.int .i64 a), isV (.slice xc C cc), isV (.int .i64 C), rowsT W4.heap.size (rowsLn C a), isV (.func (.func 130) #[] #[.pointer (some ⟨qo, 0, none⟩), .pointer (some ⟨qc, 0, none⟩)]), rowsT W4.heap.size (rowsAtL r c y)] := ⟨_, rfl⟩
  have hst : ∀ f ∈ fs, StableP f := by
    rw [hfs]; intro f hf
    simp only [List.mem_cons, List.not_mem_nil, or_false] at hf
    rcases hf with rfl | rfl | rfl | rfl | rfl | rfl | rfl | rfl | rfl <;> first | exact stable_v _ | exact stable_rowsT _ _
  subst hfs
  have hS1 : ∀ (w2 w3 : World), Below W4.heap.size W4.drew w2 → Below w2.heap.size w2 w3 → Below W4.heap.size W4.drew w3 := fun w2 w3 h k => h.trans (k.mono h.size)
  have hS0 : ∀ w2 : World, Below W4.heap.size W4.drew w2 → Below W4.heap.size W4 w2 := fun w2 h => (below_drew (Below.refl _ W4)).trans h
  refine wp_region_need (S := fun w2 => Below W4.heap.size W4.drew w2) [isV (.slice (some ⟨gr, or', none⟩) R cr), isV (.int .i64 y), isV (.pointer (some ⟨gr, or' + y, none⟩)), isV (.int .i64 a), isV (.slice xc C cc), isV (.int .i64 C), rowsT W4.heap.size (rowsLn C a), isV (.func (.func 130) #[] #[.pointer (some ⟨qo, 0, none⟩), .pointer (some ⟨qc, 0, none⟩)]), rowsT W4.heap.size (rowsAtL r c y)] [(0, .slice (some ⟨gr, or', none⟩) R cr), (2, .int .i64 y), (4, .pointer (some ⟨qc, 0, none⟩)), (7, .pointer (some ⟨qo, 0, none⟩))] _ _ 9 (by kernel_rfl) rfl rfl (by kernel_rfl) (by kernel_rfl) rfl (by kernel_rfl) ?base (Below.refl _ _) ?ob rfl ?fin
  case base =>
    intro t v ht
    simp only [List.lookup_cons, List.lookup_nil] at ht
    repeat' split at ht
    all_goals first | (cases ht; done) | (obtain rfl := Option.some.inj ht; rename_i hh; obtain rfl := eq_of_beq hh; rfl)
  case ob =>
    exact ⟨obn_of (by kernel_rfl) (obt_move (.slice (some ⟨gr, or', none⟩) R cr) rfl rfl rfl (srt_b 0 rfl)),
      obn_of (by kernel_rfl) (obt_move (.int .i64 y) rfl rfl rfl (srt_b 2 rfl)),
      obn_of (by kernel_rfl) (obt_two (.pointer (some ⟨gr, or' + y, none⟩)) rfl rfl (srt_j 0 rfl (by kernel_rfl) rfl) (srt_j 1 rfl (by kernel_rfl) rfl) (fun ρ w2 hS hx hy' => by have h1 := hyI; go_simp)),
      obn_of (by kernel_rfl) (obt_one (.int .i64 a) rfl rfl (srt_j 2 rfl (by kernel_rfl) rfl) (fun ρ w2 hS hx => by have hv := below_cell (hS0 _ hS) HGR4.out HRV.out; go_simp)),
      obn_of (by kernel_rfl) (obt_one (.slice xc C cc) rfl rfl (srt_b 4 rfl) (fun ρ w2 hS hx => by have hv := below_cell (hS0 _ hS) HQ2.out HVC.out; go_simp)),
      obn_of (by kernel_rfl) (obt_one (.int .i64 C) rfl rfl (srt_j 4 rfl (by kernel_rfl) rfl) (fun ρ w2 hS hx => by go_simp)),
      obn_of (by kernel_rfl) (obt_call hst [.int .i64 a, .int .i64 C] rfl Try.func129 (by kernel_rfl) (by kernel_rfl) rfl ⟨srt_j 3 rfl (by kernel_rfl) rfl, srt_j 5 rfl (by kernel_rfl) rfl, trivial⟩ (fun w2 hS => by
        refine (rowsWith_any a C w2 HC5.out).mono ?_
        rintro e w3 ⟨u, rfl, ho, hb3⟩
        rw [bitRows_rowsL C HC5.out] at ho
        exact ⟨u, rfl, hS1 _ _ hS hb3, hb3, matT_base (matT_own ho) hS.size⟩)),
      obn_of (by kernel_rfl) (obt_two (.func (.func 130) #[] #[.pointer (some ⟨qo, 0, none⟩), .pointer (some ⟨qc, 0, none⟩)]) rfl rfl (srt_b 7 rfl) (srt_b 4 rfl) (fun ρ w2 hS hx hy' => by go_simp)),
      fun ac w2 hS hB hD K hK => ⟨.inl rfl, run_call rfl Try.func128 (by kernel_rfl) (by kernel_rfl) #[ac.tmps.getD 20 undef, .func (.func 130) #[] #[.pointer (some ⟨qo, 0, none⟩), .pointer (some ⟨qc, 0, none⟩)]] (by
          have h21 : ac.tmps.getD 21 undef = .func (.func 130) #[] #[.pointer (some ⟨qo, 0, none⟩), .pointer (some ⟨qc, 0, none⟩)] := hD 7 21 rfl (by kernel_rfl)
          simp only [List.map_toArray, List.map_cons, List.map_nil]
          rw [show ac.eval (.tmp 21) = ac.tmps.getD 21 undef from rfl, h21]; rfl) (by
          have h20 : rowsT W4.heap.size (rowsLn C a) (ac.tmps.getD 20 undef) w2 := hD 6 20 rfl (by kernel_rfl)
          refine (delRows_any _ (rowsLn C a) 130 #[.pointer (some ⟨qo, 0, none⟩), .pointer (some ⟨qc, 0, none⟩)] (RowOf C a) (fun x => !restB (r.eraseIdx y) (subL c x)) W4.heap.size W4 w2 (enters_of Try.func130 (by kernel_rfl) rfl) h20 hS.size (Nat.le_refl _) (hS0 _ hS) (fun x hx => (mem_rowsL _ _ _).1 hx) (fun x u w5 hx hw hu => ?_)).mono ?_
          · exact rowsPred_any _ _ u (r.eraseIdx y) c x qo qc w5 (Nat.lt_of_lt_of_le HQ1.out hw.size) (Nat.lt_of_lt_of_le HQ2.out hw.size) (below_cell hw HQ1.out HVO.out) (below_cell hw HQ2.out HVC.out) (inRow_below HO4.out hw) (inRow_below HC4.out hw) hu (by rw [hx.1, HCC.out]) HM.out (mid_rowOf hx HC5.out.2)
          · rintro e w3 ⟨u, rfl, ho, hb3⟩
            rw [HFIL.out] at ho
            exact ⟨u, rfl, hK _ _ (hS.trans hb3) (fun j hj => absurd (needL_of hj) (by rw [show needL _ 8 = [] by kernel_rfl]; simp)) ho⟩)⟩,
      trivial⟩
  case fin =>
    intro a' w' h1 h2 h3 hS h4 K hK
    have hmat : rowsT W4.heap.size (rowsAtL r c y) (a'.tmps.getD 22 undef) w' := h4 8 22 rfl (by decide) (by kernel_rfl)
    obtain ⟨v22, hv22⟩ : ∃ v22, a'.tmps.getD 22 undef = v22 := ⟨_, rfl⟩
    rw [hv22] at hmat
    refine tail_assign rfl (show a'.eval (.tmp 22) = v22 from hv22) ?_ K hK
    have HMT := hide (matT_base hmat HBA.out.size)
    have HBE := hide (HBA.out.trans ((hS0 _ hS).mono HBA.out.size))
    clear hst h3 h4 hK hS1 hv22 hmat
    go_wp2
    exact bodyPost_ret (results_tmp rfl _ _ _) rfl ⟨v22, congrArg Ending.returned (set_get (d := 6) (n := 23) h1 (by decide)), HMT.out, HBE.out⟩
end Go.Proofs.Ytpfaaglaeholbaa
/-
  leastRow, LeastImage of the program.
-/
namespace Go.Proofs.Ytpfaaglaeholbaa
open Go.RowKit Go.Shelf Mx

theorem mid_img {r c : List Int} (hr : r.length ≤ 5) (hc : c.length ≤ 5) (h : HasImg r c) : Mid1000 c := by
  obtain ⟨m, hm⟩ := h
  refine ⟨hc, fun x hx => ?_⟩
  have h1 := hm.col x hx
  have h2 := cell_le (f := fun y => m y x) (n := r.length) fun y hy => hm.cell y x hy hx
  omega
theorem firstRows_head {a : Int} {r c : List Int} (hne : firstRows a r c ≠ []) : ∃ l, firstRows a r c = leastCh (a :: r) c :: l := by
  show ∃ q, firstRows a r c = (firstRows a r c).headD [] :: q
  cases e : firstRows a r c with
  | nil => exact absurd e hne
  | cons x q => exact ⟨q, rfl⟩
set_option maxHeartbeats 1000000 in
theorem leastRow_any (vr vc : Value) (a : Int) (r c : List Int) (w : World) (hr : InRow w vr (a :: r)) (hc : InRow w vc c) (hr5 : (a :: r).length ≤ 5) (hC : 1 ≤ c.length ∧ c.length ≤ 5) (hI : HasImg (a :: r) c) :
    Calls Try.prog 115 #[vr, vc] w (IntsRes (leastCh (a :: r) c) w) := by
  have HRA := hide (rowsAt_any vr vc (a :: r) c 0 w hr hc (by simp) hr5 hC.1 (mid_img hr5 hC.2 hI))
  rw [rowsAt_zero] at HRA
  have hne := firstRows_ne (by simp at hr5; omega) hC hI
  obtain ⟨l, hl⟩ := firstRows_head hne
  rw [hl] at HRA
  obtain ⟨row, hrow⟩ : ∃ row, row = leastCh (a :: r) c := ⟨_, rfl⟩
  rw [← hrow] at HRA ⊢
  obtain ⟨xr, cr, hvr, -, -⟩ := hr
  obtain ⟨xc, cc, hvc, -, -⟩ := hc
  subst hvr hvc
  obtain ⟨n, hn⟩ : ∃ n, n = (a :: r).length := ⟨_, rfl⟩
  rw [← hn] at HRA ⊢
  clear hne hl hrow hI hn hr5
  go_enter Try.func115, Try.ntmps115
  go_wp2_with fail
  refine HRA.out.mono ?_
  rintro e w1 ⟨u, rfl, ⟨vs, hv, hrows⟩, hb⟩
  obtain ⟨g, cap, rfl, -, -, -, -, -, -⟩ := own_some hv (by simp)
  have hx := cell_held hv (show 0 < (row :: l).length by simp)
  have HROW := hide (hrows 0 (by simp))
  rw [List.getElem_cons_zero] at HROW
  obtain ⟨u0, hu0⟩ : ∃ u0, u0 = vs.getD 0 undef := ⟨_, rfl⟩
  rw [← hu0] at hx HROW
  have HB := hide hb
  obtain ⟨k, hk⟩ : ∃ k, k = (row :: l).length := ⟨_, rfl⟩
  have hk1 : 0 < k := by rw [hk]; simp
  obtain ⟨a0, c0, he⟩ := own_slice HROW.out
  rw [← hk]
  clear hv hrows hb hk hu0
  subst he
  go_wp2
  go_ret
  exact ⟨_, rfl, HROW.out, HB.out⟩
/-- What holds while the least image is constructed. -/
def InvL (r c : List Int) : Prop := r.length ≤ 5 ∧ (1 ≤ c.length ∧ c.length ≤ 5) ∧ HasImg r c
theorem invL_start {r c : List Int} (h : existsOf r c = true) : InvL r c := by
  obtain ⟨hr, hc, -, -, -⟩ := sumsOk_yes (existsOf_sums h)
  exact ⟨hr.2, hc, img_of_exists h⟩
theorem choice_least : Choice 115 leastCh InvL where
  enters := enters_of Try.func115 (by kernel_rfl) rfl
  calls a r c vr vc w hI hr hc := leastRow_any vr vc a r c w hr.1 hc hI.1 hI.2.1 hI.2.2
  next a r c hI := by
    obtain ⟨h1, h2, h3⟩ := hI
    have hm := mid_img h1 h2.2 h3
    rw [List.length_cons] at h1
    obtain ⟨g1, g2⟩ := leastCh_spec (by omega) h2 h3
    exact ⟨by omega, h2.2, g1.1, ⟨by omega, by rw [subL_len]; exact h2, g2⟩, hm.2, fun x hx => by have := rowOf_cell g1 hx; omega⟩
set_option maxHeartbeats 400000 in
theorem implLeast_any (va vb : Value) (r c : List Int) (w : World) (ha : RowC w va r) (hb : RowC w vb c) :
    Calls Try.prog 73 #[va, vb] w (MatRes2 (if existsOf r c = true then imgL leastCh r c else []) (existsOf r c) w) := by
  have HA := hide ha; have HB := hide hb; have HA1 := hide ha.1; have HB1 := hide hb.1
  cases h : existsOf r c with
  | false =>
    rw [if_neg (by decide)]
    have H := hide h
    clear ha hb h
    go_enter Try.func73, Try.ntmps73
    go_wp2_with ((with_reducible refine (implExists_any va vb r c _ HA1.out HB1.out).mono ?_); rw [H.out]; rintro e w1 ⟨rfl, b1⟩; have B1 := hide b1; clear b1)
    go_ret2
    exact matRes2_nil B1.out
  | true =>
    rw [if_pos rfl]
    have H := hide h
    have HI := hide (invL_start h)
    clear ha hb h
    go_enter Try.func73, Try.ntmps73
    go_wp2_with (first | ((with_reducible refine (implExists_any va vb r c _ HA1.out HB1.out).mono ?_); rw [H.out]; rintro e w1 ⟨rfl, b1⟩; have B1 := hide b1; clear b1) | (go_at_call 114; refine (imageBy_any 115 leastCh InvL choice_least r c va vb _ HI.out (rowC_below HA.out B1.out) (inRow_below HB1.out B1.out)).mono ?_; rintro e w2 ⟨v, rfl, ho, hb⟩; have HO := hide (ownMat_mono ho B1.out.size (Nat.le_refl _)); have B2 := hide (B1.out.trans (hb.mono B1.out.size)); clear ho hb))
    go_ret2
    exact ⟨_, rfl, HO.out, B2.out⟩
/-- What CanPlace answers. -/
def placeOf (r c : List Int) (y x v : Int) : Bool := existsOf r c && decide (0 ≤ y ∧ y < r.length ∧ 0 ≤ x ∧ x < c.length) && (rowsAtL r c y.toNat).any fun row => row.getD x.toNat 0 == v
end Go.Proofs.Ytpfaaglaeholbaa
/-
  CanPlace of the program.
-/
namespace Go.Proofs.Ytpfaaglaeholbaa
open Go.RowKit Go.Shelf Mx

set_option maxHeartbeats 400000 in
theorem placePred_any (u : Value) (row : List Int) (x : Nat) (v : Int) (qx qv : Nat) (w : World) (hvx : w.cell? ⟨qx, 0, none⟩ = some (.int .i64 x)) (hvv : w.cell? ⟨qv, 0, none⟩ = some (.int .i64 v)) (hU : InRow w u row) (hx : x < row.length) :
    Calls Try.prog 119 #[u, .pointer (some ⟨qx, 0, none⟩), .pointer (some ⟨qv, 0, none⟩)] w fun e w' => e = .returned (.bool (row.getD x 0 == v)) ∧ Below w.heap.size w w' := by
  have mixed : Try.prog.follows .mixedOrders = true := by kernel_rfl
  obtain ⟨a, c, rfl, hm, hp⟩ := hU
  obtain ⟨g, o, rfl, hg, hc⟩ := hp.resolve_left (by omega)
  have hcx := hc x hx
  have e1 : row.getD x 0 = row[x] := by rw [List.getD_eq_getElem?_getD, List.getElem?_eq_getElem hx]; rfl
  rw [e1]
  obtain ⟨z, hz⟩ : ∃ z, z = row[x] := ⟨_, rfl⟩
  rw [← hz] at hcx ⊢
  obtain ⟨n, hn⟩ : ∃ n, n = row.length := ⟨_, rfl⟩
  rw [← hn] at hx hm ⊢
  have hxI : (x : Int) < n := by omega
  clear hc hp e1 hz hn
  go_enter Try.func119, Try.ntmps119
  go_wp2
  go_quiet (fail)
  go_wp2
  go_ret
  exact ⟨rfl, below_draws (Below.refl _ _) _⟩
theorem place_out {r c : List Int} {y x v : Int} (h : ¬ (0 ≤ y ∧ y < r.length ∧ 0 ≤ x ∧ x < c.length)) : placeOf r c y x v = false := by
  unfold placeOf
  rw [decide_eq_false h]; simp
theorem place_no {r c : List Int} {y x v : Int} (h : existsOf r c = false) : placeOf r c y x v = false := by unfold placeOf; rw [h]; rfl
theorem place_in {r c : List Int} {y x : Nat} {v : Int} (h : existsOf r c = true) (hy : y < r.length) (hx : x < c.length) : placeOf r c y x v = (rowsAtL r c y).any fun row => row.getD x 0 == v := by
  unfold placeOf
  rw [h, decide_eq_true (by omega)]; simp
set_option maxHeartbeats 400000 in
theorem implPlace_no (va vb : Value) (r c : List Int) (y x v : Int) (w : World) (ha : InRow w va r) (hb : InRow w vb c) (h : existsOf r c = false) :
    Calls Try.prog 80 #[va, vb, .int .i64 y, .int .i64 x, .int .i64 v] w fun e w' => e = .returned (.bool (placeOf r c y x v)) ∧ Below w.heap.size w w' := by
  rw [place_no h]
  have HBX := hide (((Below.refl w.heap.size w).alloc (Nat.le_refl _) (.cells #[.int .i64 x] 3)).alloc (by simp) (.cells #[.int .i64 v] 3))
  have HE := hide (implExists_any va vb r c _ (inRow_below ha HBX.out) (inRow_below hb HBX.out))
  rw [h] at HE
  clear ha hb h
  go_enter Try.func80, Try.ntmps80
  go_wp2_with (go_at_call 113; refine HE.out.mono ?_; rintro e w1 ⟨rfl, b1⟩; have B1 := hide b1; clear b1)
  go_ret
  exact ⟨rfl, HBX.out.trans (B1.out.mono HBX.out.size)⟩
set_option maxHeartbeats 1000000 in
theorem implPlace_out (va vb : Value) (r c : List Int) (y x v : Int) (w : World) (ha : InRow w va r) (hb : InRow w vb c) (h : existsOf r c = true) (ho : ¬ (0 ≤ y ∧ y < r.length ∧ 0 ≤ x ∧ x < c.length)) :
    Calls Try.prog 80 #[va, vb, .int .i64 y, .int .i64 x, .int .i64 v] w fun e w' => e = .returned (.bool (placeOf r c y x v)) ∧ Below w.heap.size w w' := by
  rw [place_out ho]
  have HBX := hide (((Below.refl w.heap.size w).alloc (Nat.le_refl _) (.cells #[.int .i64 x] 3)).alloc (by simp) (.cells #[.int .i64 v] 3))
  have HX := hide (show ((w.alloc (.cells #[.int .i64 x] 3)).alloc (.cells #[.int .i64 v] 3)).cell? ⟨w.heap.size, 0, none⟩ = some (.int .i64 x) from below_cell ((Below.refl _ _).alloc (Nat.le_refl _) _) (by simp) (by simp [World.cell?_alloc_new]))
  have HS := hide (show w.heap.size < ((w.alloc (.cells #[.int .i64 x] 3)).alloc (.cells #[.int .i64 v] 3)).heap.size by simp; omega)
  have HE := hide (implExists_any va vb r c _ (inRow_below ha HBX.out) (inRow_below hb HBX.out))
  rw [h] at HE
  obtain ⟨xa, ca, rfl, hma, -⟩ := ha
  obtain ⟨xb, cb, rfl, hmb, -⟩ := hb
  unfold maxLen at hma hmb
  obtain ⟨R, hR⟩ : ∃ R, R = r.length := ⟨_, rfl⟩
  obtain ⟨C, hC⟩ : ∃ C, C = c.length := ⟨_, rfl⟩
  rw [← hR] at ho hma HE ⊢
  rw [← hC] at ho hmb HE ⊢
  clear h hR hC
  have hcases : y < 0 ∨ (0 ≤ y ∧ (R : Int) ≤ y) ∨ (0 ≤ y ∧ y < R ∧ x < 0) ∨ (0 ≤ y ∧ y < R ∧ 0 ≤ x ∧ (C : Int) ≤ x) := by omega
  clear ho
  rcases hcases with h1 | ⟨h1, h2⟩ | ⟨h1, h2, h3⟩ | ⟨h1, h2, h3, h4⟩
  all_goals
    go_enter Try.func80, Try.ntmps80
    go_wp2_with (go_at_call 113; refine HE.out.mono ?_; rintro e w1 ⟨rfl, b1⟩; have B1 := hide b1; have hx1 := below_cell b1 HS.out HX.out; clear b1)
    go_ret
    exact ⟨rfl, HBX.out.trans (B1.out.mono HBX.out.size)⟩
set_option maxHeartbeats 1000000 in
theorem implPlace_in (va vb : Value) (r c : List Int) (y x : Nat) (v : Int) (w : World) (ha : InRow w va r) (hb : InRow w vb c) (h : existsOf r c = true) (hy : y < r.length) (hx : x < c.length) :
    Calls Try.prog 80 #[va, vb, .int .i64 y, .int .i64 x, .int .i64 v] w fun e w' => e = .returned (.bool (placeOf r c y x v)) ∧ Below w.heap.size w w' := by
  rw [place_in h hy hx]
  have HBX := hide (((Below.refl w.heap.size w).alloc (Nat.le_refl _) (.cells #[.int .i64 x] 3)).alloc (by simp) (.cells #[.int .i64 v] 3))
  have HX := hide (show ((w.alloc (.cells #[.int .i64 x] 3)).alloc (.cells #[.int .i64 v] 3)).cell? ⟨w.heap.size, 0, none⟩ = some (.int .i64 x) from below_cell ((Below.refl _ _).alloc (Nat.le_refl _) _) (by simp) (by simp [World.cell?_alloc_new]))
  have HV := hide (show ((w.alloc (.cells #[.int .i64 x] 3)).alloc (.cells #[.int .i64 v] 3)).cell? ⟨w.heap.size + 1, 0, none⟩ = some (.int .i64 v) by
    have := World.cell?_alloc_new (w.alloc (.cells #[.int .i64 x] 3)) #[.int .i64 v] 3 0
    simp at this ⊢)
  have HS := hide (show w.heap.size + 1 < ((w.alloc (.cells #[.int .i64 x] 3)).alloc (.cells #[.int .i64 v] 3)).heap.size by simp)
  have HE := hide (implExists_any va vb r c _ (inRow_below ha HBX.out) (inRow_below hb HBX.out))
  rw [h] at HE
  obtain ⟨hr5, hc5, -, -, -⟩ := sumsOk_yes (existsOf_sums h)
  have hmid := mid_img hr5.2 hc5.2 (img_of_exists h)
  have HR := hide fun (w' : World) (hw : Below w.heap.size w w') => rowsAt_any va vb r c y w' (inRow_below ha hw) (inRow_below hb hw) hy hr5.2 hc5.1 hmid
  have HOK : Hid (∀ row ∈ rowsAtL r c y, row.length = c.length) := hide fun row hrow => ((mem_rowsL _ _ _).1 (List.mem_filter.1 hrow).1).1
  obtain ⟨xa, ca, rfl, hma, -⟩ := ha
  obtain ⟨xb, cb, rfl, hmb, -⟩ := hb
  unfold maxLen at hma hmb
  obtain ⟨R, hRR⟩ : ∃ R, R = r.length := ⟨_, rfl⟩
  obtain ⟨C, hCC⟩ : ∃ C, C = c.length := ⟨_, rfl⟩
  rw [← hRR] at hy hma HE HR ⊢
  rw [← hCC] at hx hmb HE HR HOK ⊢
  have hyI : (y : Int) < R := by omega
  have hxI : (x : Int) < C := by omega
  have HXC := hide hx
  clear h hRR hCC hmid hr5 hc5
  go_enter Try.func80, Try.ntmps80
  go_wp2_with (go_at_call 113; refine HE.out.mono ?_; rintro e w1 ⟨rfl, b1⟩; have B1 := hide (HBX.out.trans (b1.mono HBX.out.size)); have hx1 := below_cell b1 (Nat.lt_of_succ_lt HS.out) HX.out; have HX1 := hide hx1; have HV1 := hide (below_cell b1 HS.out HV.out); have HS1 := hide (Nat.lt_of_lt_of_le HS.out b1.size); clear b1)
  refine (HR.out _ B1.out).mono ?_
  rintro e w2 ⟨u, rfl, hm, hb⟩
  have HM := hide (inMat_matT hm); have HB2 := hide (B1.out.trans (hb.mono B1.out.size))
  have HX2 := hide (below_cell hb (Nat.lt_of_succ_lt HS1.out) HX1.out); have HV2 := hide (below_cell hb HS1.out HV1.out); have HS2 := hide (Nat.lt_of_lt_of_le HS1.out hb.size)
  clear hm hb
  have HCON := hide (containsRows_any u (rowsAtL r c y) 119 #[.pointer (some ⟨w.heap.size, 0, none⟩), .pointer (some ⟨w.heap.size + 1, 0, none⟩)] (fun row => row.length = C) (fun row => row.getD x 0 == v) w2 (enters_of Try.func119 (by kernel_rfl) rfl) HM.out HOK.out (fun row u w5 hr hw hu => placePred_any u row x v (w.heap.size) (w.heap.size + 1) w5 (below_cell hw (Nat.lt_of_succ_lt HS2.out) HX2.out) (below_cell hw HS2.out HV2.out) hu (by rw [hr]; exact HXC.out)))
  go_wp2_with (go_at_call 118; refine HCON.out.mono ?_; rintro e w3 ⟨rfl, b3⟩; have B3 := hide (HB2.out.trans (b3.mono HB2.out.size)); clear b3)
  go_ret
  exact ⟨rfl, B3.out⟩
theorem implPlace_any (va vb : Value) (r c : List Int) (y x v : Int) (w : World) (ha : InRow w va r) (hb : InRow w vb c) :
    Calls Try.prog 80 #[va, vb, .int .i64 y, .int .i64 x, .int .i64 v] w fun e w' => e = .returned (.bool (placeOf r c y x v)) ∧ Below w.heap.size w w' := by
  cases h : existsOf r c with
  | false => exact implPlace_no va vb r c y x v w ha hb h
  | true =>
    by_cases ho : 0 ≤ y ∧ y < r.length ∧ 0 ≤ x ∧ x < c.length
    · obtain ⟨h1, h2, h3, h4⟩ := ho
      obtain ⟨y', rfl⟩ : ∃ y' : Nat, y = y' := ⟨y.toNat, by omega⟩
      obtain ⟨x', rfl⟩ : ∃ x' : Nat, x = x' := ⟨x.toNat, by omega⟩
      exact implPlace_in va vb r c y' x' v w ha hb h (by omega) (by omega)
    · exact implPlace_out va vb r c y x v w ha hb h ho
end Go.Proofs.Ytpfaaglaeholbaa
/-
  TransposeOf, MirrorOf, InvertOf of the model.
-/
namespace Go.Proofs.Ytpfaaglaeholbaa
open Go.RowKit
set_option linter.unusedVariables false

def upTr (C : Nat) (f : Nat → Nat → Int) (y x a b : Nat) : Int := if b < y ∨ (b = y ∧ a < x) then f b a else 0
theorem upTr_zero (R C : Nat) (f : Nat → Nat → Int) : mkM C R zeroM = mkM C R (upTr C f 0 0) := mkM_congr fun a b ha hb => by rw [upTr, if_neg (by omega)]; rfl
theorem upTr_set (R C : Nat) (f : Nat → Nat → Int) (y x : Nat) (hy : y < R) (hx : x < C) (z : Int) (hz : f y x = z) :
    mkM C R (fun a b => if a = x ∧ b = y then z else upTr C f y x a b) = mkM C R (upTr C f y (x + 1)) := mkM_congr fun a b ha hb => by
  simp only [upTr]
  by_cases e : a = x ∧ b = y
  · obtain ⟨rfl, rfl⟩ := e
    rw [if_pos ⟨rfl, rfl⟩, if_pos (by omega), ← hz]
  · rw [if_neg e]
    by_cases hl : b < y ∨ (b = y ∧ a < x)
    · rw [if_pos hl, if_pos (by omega)]
    · rw [if_neg hl, if_neg (by omega)]
theorem upTr_next (R C : Nat) (f : Nat → Nat → Int) (y : Nat) (hy : y < R) : mkM C R (upTr C f y C) = mkM C R (upTr C f (y + 1) 0) := mkM_congr fun a b ha hb => by
  simp only [upTr]
  by_cases hl : b < y + 1
  · rw [if_pos (by omega), if_pos (by omega)]
  · rw [if_neg (by omega), if_neg (by omega)]
theorem upTr_all (R C : Nat) (f : Nat → Nat → Int) : mkM C R (upTr C f R 0) = mkM C R (trM f) := mkM_congr fun a b ha hb => by
  rw [upTr, if_pos (by omega)]; rfl
set_option maxHeartbeats 400000 in
theorem specTransposeOf_no (v : Value) (m : List (List Int)) (w : World) (hin : InMat w v m) (h : okB m = false) :
    Calls Try.prog 123 #[v] w (MatRes [] w) := by
  have HI := hide hin; have H := hide h
  clear hin h
  go_enter Try.func123, Try.ntmps123
  go_wp2_with (with_reducible refine (specImageOk_any v m _ HI.out).mono ?_; rw [H.out]; rintro e w' ⟨rfl, rfl⟩)
  go_ret
  exact matRes_nil (Below.refl _ _)
set_option maxHeartbeats 1000000 in
theorem specTransposeOf_yes (v : Value) (R C : Nat) (f : Nat → Nat → Int) (w : World) (hin : InMat w v (mkM R C f)) (hI : Img R C f) :
    Calls Try.prog 123 #[v] w (MatRes (mkM C R (trM f)) w) := by
  have HI := hide hin; have H := hide (img_ok hI); have HX := hide hI
  have hR1 := hI.r1; have hC1 := hI.c1; have hR := hI.r2; have hC := hI.c2
  obtain ⟨g, o, c, rfl, hg, hcell⟩ := inMat_img hin (by omega) (by omega)
  have HC := hide hcell
  obtain ⟨g0, o0, c0, hx0, -⟩ := hcell 0 (by omega)
  rw [Nat.add_zero] at hx0
  clear hin hI hcell
  go_enter Try.func123, Try.ntmps123
  go_wp2_with (first | (with_reducible refine (specImageOk_any _ _ _ HI.out).mono ?_; rw [H.out]; rintro e w' ⟨rfl, rfl⟩))
  refine (l02Empty_any C R _ (by omega) (by omega)).mono ?_
  rintro e w3 ⟨v3, rfl, o3, b3⟩
  rw [upTr_zero R C f] at o3
  obtain ⟨gv, cv, rfl⟩ := ownMat_some o3 (by rw [mkM_len]; omega)
  obtain ⟨hi, hhi⟩ : ∃ hi, hi = w3.heap.size := ⟨_, rfl⟩
  rw [← hhi] at o3
  rw [mkM_len] at *
  have B3 := hide b3; have O3 := hide o3
  have hge : hi ≤ w3.heap.size := by omega
  clear b3 o3 hhi hx0
  go_wp2
  go_loopw [20] (fun i w' => ∃ y : Nat, y ≤ R ∧ i = .int .i64 y ∧ hi ≤ w'.heap.size ∧ OwnMat w' w.heap.size hi (.slice (some ⟨gv, 0, none⟩) C cv) (mkM C R (upTr C f y 0)) ∧ Below w.heap.size w w') (fun i _ => R - (intOf i).toNat)
  case atStart => exact ⟨0, by omega, rfl, hge, O3.out, B3.out⟩

  case round =>
    clear B3 O3 hge
    obtain ⟨y, hy, rfl, hhi, hown, hb⟩ := hrel
    have HO := hide hown; have HB := hide hb
    clear hown hb
    by_cases hlt : y < R
    · have hyI : (y : Int) < R := by omega
      obtain ⟨g', o', c', hx, hg', hcc⟩ := HC.out y hlt
      have hx := below_cell HB.out hg hx
      have HCC := hide hcc
      clear hcc
      go_wp2
      go_loopw [27] (fun i w' => ∃ x : Nat, x ≤ C ∧ i = .int .i64 x ∧ hi ≤ w'.heap.size ∧ OwnMat w' w.heap.size hi (.slice (some ⟨gv, 0, none⟩) C cv) (mkM C R (upTr C f y x)) ∧ Below w.heap.size w w') (fun i _ => C - (intOf i).toNat)
      case atStart => exact ⟨0, by omega, rfl, hhi, HO.out, HB.out⟩
      case round =>
        clear HO HB hx hhi
        obtain ⟨x, hxx, rfl, hhi, hown, hb⟩ := hrel
        have HO := hide hown; have HB := hide hb
        clear hown hb
        by_cases hlx : x < C
        · have hxI : (x : Int) < C := by omega
          have hz := below_cell HB.out hg' (HCC.out x hlx)
          obtain ⟨gr, cr, hrow, hcl, hfr, hlo, hgh, hset⟩ := ownMat_cell HO.out (x) (y) (by omega) (by omega)
          have HSET := hide hset
          clear hset
          skip
          have HS := hide (upTr_set R C f y x hlt hlx _ rfl)
          go_wp2
          go_roundw
          case rel => exact ⟨x + 1, by omega, by go_num, by simpa [World.setCell] using hhi, by have := HSET.out (f y x); rw [HS.out] at this; exact this, HB.out.setCell hlo _⟩
          case measure => simp [intOf]; omega
        · obtain rfl : x = C := by omega
          have HS := hide (upTr_next R x f y hlt)
          rw [HS.out] at HO
          clear HS
          go_wp2
          go_roundw
          case rel => exact ⟨y + 1, by omega, by go_num, hhi, HO.out, HB.out⟩
          case measure => simp [intOf]; omega
    · obtain rfl : y = R := by omega
      have HS := hide (upTr_all y C f)
      rw [HS.out] at HO
      clear HS
      go_wp2
      go_ret
      exact ⟨_, rfl, ownMat_mono HO.out (Nat.le_refl _) hhi, HB.out⟩

def upMi (C : Nat) (f : Nat → Nat → Int) (y x a b : Nat) : Int := if a < y ∨ (a = y ∧ C - 1 - b < x) then f a (C - 1 - b) else 0
theorem upMi_zero (R C : Nat) (f : Nat → Nat → Int) : mkM R C zeroM = mkM R C (upMi C f 0 0) := mkM_congr fun a b ha hb => by rw [upMi, if_neg (by omega)]; rfl
theorem upMi_set (R C : Nat) (f : Nat → Nat → Int) (y x : Nat) (hy : y < R) (hx : x < C) (z : Int) (hz : f y x = z) :
    mkM R C (fun a b => if a = y ∧ b = C - 1 - x then z else upMi C f y x a b) = mkM R C (upMi C f y (x + 1)) := mkM_congr fun a b ha hb => by
  simp only [upMi]
  by_cases e : a = y ∧ b = C - 1 - x
  · obtain ⟨rfl, rfl⟩ := e
    rw [if_pos ⟨rfl, rfl⟩, if_pos (by omega), ← hz]; rw [show C - 1 - (C - 1 - x) = x by omega]
  · rw [if_neg e]
    by_cases hl : a < y ∨ (a = y ∧ C - 1 - b < x)
    · rw [if_pos hl, if_pos (by omega)]
    · rw [if_neg hl, if_neg (by omega)]
theorem upMi_next (R C : Nat) (f : Nat → Nat → Int) (y : Nat) (hy : y < R) : mkM R C (upMi C f y C) = mkM R C (upMi C f (y + 1) 0) := mkM_congr fun a b ha hb => by
  simp only [upMi]
  by_cases hl : a < y + 1
  · rw [if_pos (by omega), if_pos (by omega)]
  · rw [if_neg (by omega), if_neg (by omega)]
theorem upMi_all (R C : Nat) (f : Nat → Nat → Int) : mkM R C (upMi C f R 0) = mkM R C (mirM C f) := mkM_congr fun a b ha hb => by
  rw [upMi, if_pos (by omega)]; rfl
def upIn (C : Nat) (f : Nat → Nat → Int) (y x a b : Nat) : Int := if a < y ∨ (a = y ∧ b < x) then 1 - f a b else 0
theorem upIn_zero (R C : Nat) (f : Nat → Nat → Int) : mkM R C zeroM = mkM R C (upIn C f 0 0) := mkM_congr fun a b ha hb => by rw [upIn, if_neg (by omega)]; rfl
theorem upIn_set (R C : Nat) (f : Nat → Nat → Int) (y x : Nat) (hy : y < R) (hx : x < C) (z : Int) (hz : 1 - f y x = z) :
    mkM R C (fun a b => if a = y ∧ b = x then z else upIn C f y x a b) = mkM R C (upIn C f y (x + 1)) := mkM_congr fun a b ha hb => by
  simp only [upIn]
  by_cases e : a = y ∧ b = x
  · obtain ⟨rfl, rfl⟩ := e
    rw [if_pos ⟨rfl, rfl⟩, if_pos (by omega), ← hz]
  · rw [if_neg e]
    by_cases hl : a < y ∨ (a = y ∧ b < x)
    · rw [if_pos hl, if_pos (by omega)]
    · rw [if_neg hl, if_neg (by omega)]
theorem upIn_next (R C : Nat) (f : Nat → Nat → Int) (y : Nat) (hy : y < R) : mkM R C (upIn C f y C) = mkM R C (upIn C f (y + 1) 0) := mkM_congr fun a b ha hb => by
  simp only [upIn]
  by_cases hl : a < y + 1
  · rw [if_pos (by omega), if_pos (by omega)]
  · rw [if_neg (by omega), if_neg (by omega)]
theorem upIn_all (R C : Nat) (f : Nat → Nat → Int) : mkM R C (upIn C f R 0) = mkM R C (invM f) := mkM_congr fun a b ha hb => by
  rw [upIn, if_pos (by omega)]; rfl
end Go.Proofs.Ytpfaaglaeholbaa
/-
  ColSums of both.
-/
namespace Go.Proofs.Ytpfaaglaeholbaa
open Go.RowKit

theorem implColSums_no (v : Value) (m : List (List Int)) (w : World) (hin : InMat w v m) (h : okB m = false) :
    Calls Try.prog 82 #[v] w (IntsRes [] w) := by
  have HI := hide hin; have H := hide h
  clear hin h
  go_enter Try.func82, Try.ntmps82
  go_wp2_with fail
  refine (implTransposeOf_no v m _ HI.out H.out).mono ?_
  rintro e w1 ⟨u, rfl, ho, hb⟩
  have HM := hide (inMat_own ho); have HB := hide hb
  clear ho hb
  go_wp2_with fail
  refine (implRowSums_no u [] _ HM.out (by decide)).mono ?_
  rintro e w2 ⟨u2, rfl, ho, hb⟩
  have HO := hide (own_base ho HB.out.size); have HB2 := hide (HB.out.trans (hb.mono HB.out.size))
  clear ho hb
  go_wp2
  go_ret
  exact ⟨_, rfl, HO.out, HB2.out⟩
theorem implColSums_yes (v : Value) (R C : Nat) (f : Nat → Nat → Int) (w : World) (hin : InMat w v (mkM R C f)) (hI : Img R C f) :
    Calls Try.prog 82 #[v] w (IntsRes (rowsL C R (trM f)) w) := by
  have HI := hide hin; have H := hide hI
  clear hin hI
  go_enter Try.func82, Try.ntmps82
  go_wp2_with fail
  refine (implTransposeOf_yes v R C f _ HI.out H.out).mono ?_
  rintro e w1 ⟨u, rfl, ho, hb⟩
  have HM := hide (inMat_own ho); have HB := hide hb
  clear ho hb
  go_wp2_with fail
  refine (implRowSums_yes u C R (trM f) _ HM.out (img_tr H.out)).mono ?_
  rintro e w2 ⟨u2, rfl, ho, hb⟩
  have HO := hide (own_base ho HB.out.size); have HB2 := hide (HB.out.trans (hb.mono HB.out.size))
  clear ho hb
  go_wp2
  go_ret
  exact ⟨_, rfl, HO.out, HB2.out⟩

theorem specColSums_no (v : Value) (m : List (List Int)) (w : World) (hin : InMat w v m) (h : okB m = false) :
    Calls Try.prog 99 #[v] w (IntsRes [] w) := by
  have HI := hide hin; have H := hide h
  clear hin h
  go_enter Try.func99, Try.ntmps99
  go_wp2_with fail
  refine (specTransposeOf_no v m _ HI.out H.out).mono ?_
  rintro e w1 ⟨u, rfl, ho, hb⟩
  have HM := hide (inMat_own ho); have HB := hide hb
  clear ho hb
  go_wp2_with fail
  refine (specRowSums_no u [] _ HM.out (by decide)).mono ?_
  rintro e w2 ⟨u2, rfl, ho, hb⟩
  have HO := hide (own_base ho HB.out.size); have HB2 := hide (HB.out.trans (hb.mono HB.out.size))
  clear ho hb
  go_wp2
  go_ret
  exact ⟨_, rfl, HO.out, HB2.out⟩
theorem specColSums_yes (v : Value) (R C : Nat) (f : Nat → Nat → Int) (w : World) (hin : InMat w v (mkM R C f)) (hI : Img R C f) :
    Calls Try.prog 99 #[v] w (IntsRes (rowsL C R (trM f)) w) := by
  have HI := hide hin; have H := hide hI
  clear hin hI
  go_enter Try.func99, Try.ntmps99
  go_wp2_with fail
  refine (specTransposeOf_yes v R C f _ HI.out H.out).mono ?_
  rintro e w1 ⟨u, rfl, ho, hb⟩
  have HM := hide (inMat_own ho); have HB := hide hb
  clear ho hb
  go_wp2_with fail
  refine (specRowSums_yes u C R (trM f) _ HM.out (img_tr H.out)).mono ?_
  rintro e w2 ⟨u2, rfl, ho, hb⟩
  have HO := hide (own_base ho HB.out.size); have HB2 := hide (HB.out.trans (hb.mono HB.out.size))
  clear ho hb
  go_wp2
  go_ret
  exact ⟨_, rfl, HO.out, HB2.out⟩
end Go.Proofs.Ytpfaaglaeholbaa
/-
  Lists of integers held against one another: slices.Equal.
-/
namespace Go.Proofs.Ytpfaaglaeholbaa
open Go.RowKit

theorem sameRow_no {r s : List Int} (h : r.length ≠ s.length) : (r == s) = false := by
  rw [beq_eq_false_iff_ne]; intro e; exact h (by rw [e])
theorem sameRow_no2 {r s : List Int} (k : Nat) (hr : k < r.length) (hs : k < s.length) (h : r[k] ≠ s[k]) : (r == s) = false := by
  rw [beq_eq_false_iff_ne]; intro e; subst e; exact h rfl
theorem sameRow_yes {r s : List Int} (h : r.length = s.length) (h2 : ∀ k, (hr : k < r.length) → (hs : k < s.length) → r[k] = s[k]) : (r == s) = true := by
  rw [beq_iff_eq]; exact List.ext_getElem h h2
theorem sameMat_no {r s : List (List Int)} (h : r.length ≠ s.length) : (r == s) = false := by
  rw [beq_eq_false_iff_ne]; intro e; exact h (by rw [e])
theorem sameMat_no2 {r s : List (List Int)} (k : Nat) (hr : k < r.length) (hs : k < s.length) (h : (r[k] == s[k]) = false) : (r == s) = false := by
  rw [beq_eq_false_iff_ne] at h ⊢; intro e; subst e; exact h rfl
theorem sameMat_yes {r s : List (List Int)} (h : r.length = s.length) (h2 : ∀ k, (hr : k < r.length) → (hs : k < s.length) → (r[k] == s[k]) = true) : (r == s) = true := by
  rw [beq_iff_eq]; exact List.ext_getElem h fun k h1 h2' => by simpa using h2 k h1 h2'

set_option maxHeartbeats 1000000 in
theorem l02Same_any (va vb : Value) (r s : List Int) (w : World) (ha : InRow w va r) (hb : InRow w vb s) :
    Calls Try.prog 97 #[va, vb] w fun e w' => e = .returned (.bool (r == s)) ∧ w = w' := by
  obtain ⟨a, ca, rfl, hma, hpa⟩ := ha
  obtain ⟨b, cb, rfl, hmb, hpb⟩ := hb
  unfold maxLen at hma hmb
  by_cases hlen : r.length = s.length
  · by_cases h0 : r.length = 0
    · have hr : r = [] := List.eq_nil_of_length_eq_zero h0
      have hs : s = [] := List.eq_nil_of_length_eq_zero (by omega)
      subst hr; subst hs
      clear hpa hpb hma hmb hlen h0
      go_enter Try.func97, Try.ntmps97
      go_wp2
      go_loop [14] (fun i => i = .int .i64 0) (fun _ => 0)
      case atStart => rfl
      case round =>
        obtain rfl := hrel
        go_wp2
        go_ret
        exact ⟨rfl, rfl⟩
    · obtain ⟨ga, oa, rfl, -, hca⟩ := hpa.resolve_left h0
      obtain ⟨gb, ob, rfl, -, hcb⟩ := hpb.resolve_left (by omega)
      have HA := hide hca; have HB := hide hcb; have HL := hide hlen
      obtain ⟨n, hn⟩ : ∃ n, n = r.length := ⟨_, rfl⟩
      have HN := hide hn
      have HM : Hid (s.length = n) := hide (by omega)
      rw [← hlen, ← hn]
      rw [← hn] at hma
      clear hpa hpb hca hcb h0 hmb hlen hn
      go_enter Try.func97, Try.ntmps97
      go_wp2
      go_loop [14] (fun i => ∃ k : Nat, k ≤ n ∧ i = .int .i64 k ∧ ∀ t, (h1 : t < r.length) → (h2 : t < s.length) → t < k → r[t] = s[t]) (fun i => n - (intOf i).toNat)
      case atStart => exact ⟨0, Nat.zero_le _, rfl, fun t _ _ h => absurd h (Nat.not_lt_zero _)⟩
      case round =>
        obtain ⟨k, hk, rfl, hall⟩ := hrel
        have HH := hide hall
        clear hall
        by_cases hlt : k < n
        · have hkr : k < r.length := by rw [← HN.out]; exact hlt
          have hks : k < s.length := by rw [HM.out]; exact hlt
          have hxa := HA.out k hkr
          have hxb := HB.out k hks
          have HNO := hide (fun h => sameRow_no2 k hkr hks h)
          have HST : Hid (r[k] = s[k] → ∀ t, (h1 : t < r.length) → (h2 : t < s.length) → t < k + 1 → r[t] = s[t]) := hide fun h t h1 h2 ht => by
            by_cases e : t = k
            · subst e; exact h
            · exact HH.out t h1 h2 (by omega)
          obtain ⟨x, hx⟩ : ∃ x, x = r[k] := ⟨_, rfl⟩
          obtain ⟨y, hy⟩ : ∃ y, y = s[k] := ⟨_, rfl⟩
          rw [← hx, ← hy] at HNO HST
          rw [← hx] at hxa
          rw [← hy] at hxb
          clear hx hy
          by_cases e : x = y
          · subst e
            have HST := hide (HST.out rfl)
            go_wp2
            go_round
            case rel => exact ⟨k + 1, by omega, by go_num, HST.out⟩
            case measure => simp [intOf]; omega
          · have HF := hide (HNO.out e)
            have hne : (x == y) = false := by simpa using e
            have hne2 : (x != y) = true := by simpa using e
            clear e
            go_wp2
            go_ret
            exact ⟨ret_bool HF.out.symm, rfl⟩
        · have HY := hide (sameRow_yes HL.out fun t h1 h2 => HH.out t h1 h2 (by have := HN.out; omega))
          go_wp2
          go_ret
          exact ⟨ret_bool HY.out.symm, rfl⟩
  · have HF := hide (sameRow_no hlen)
    obtain ⟨n, hn⟩ : ∃ n, n = r.length := ⟨_, rfl⟩
    obtain ⟨k, hk⟩ : ∃ k, k = s.length := ⟨_, rfl⟩
    rw [← hn, ← hk] at hlen ⊢
    rw [← hn] at hma
    rw [← hk] at hmb
    have hne : ((n : Int) == (k : Int)) = false := by simp; omega
    have hne2 : ((n : Int) != (k : Int)) = true := by simp; omega
    clear hpa hpb hn hk hlen
    go_enter Try.func97, Try.ntmps97
    go_wp2
    go_ret
    exact ⟨ret_bool HF.out.symm, rfl⟩

end Go.Proofs.Ytpfaaglaeholbaa
/-
  SameImage, of the model and of the program, and the exact law, walked.
-/
namespace Go.Proofs.Ytpfaaglaeholbaa
open Go.RowKit

set_option maxHeartbeats 1000000 in
theorem specSameImage_any (va vb : Value) (m l : List (List Int)) (w : World) (ha : InMat w va m) (hb : InMat w vb l) :
    Calls Try.prog 100 #[va, vb] w fun e w' => e = .returned (.bool (m == l)) ∧ Below w.heap.size w w' := by
  obtain ⟨a, ca, rfl, hma, hpa⟩ := ha
  obtain ⟨b, cb, rfl, hmb, hpb⟩ := hb
  unfold maxLen at hma hmb
  by_cases hlen : m.length = l.length
  · by_cases h0 : m.length = 0
    · have hr : m = [] := List.eq_nil_of_length_eq_zero h0
      have hs : l = [] := List.eq_nil_of_length_eq_zero (by omega)
      subst hr; subst hs
      clear hpa hpb hma hmb hlen h0
      go_enter Try.func100, Try.ntmps100
      go_wp2
      go_loop [14] (fun i => i = .int .i64 0) (fun _ => 0)
      case atStart => rfl
      case round =>
        obtain rfl := hrel
        go_wp2
        go_ret
        exact ⟨rfl, Below.refl _ _⟩
    · obtain ⟨ga, oa, rfl, hga, hca⟩ := hpa.resolve_left h0
      obtain ⟨gb, ob, rfl, hgb, hcb⟩ := hpb.resolve_left (by omega)
      have HA := hide hca; have HB := hide hcb; have HL := hide hlen
      obtain ⟨n, hn⟩ : ∃ n, n = m.length := ⟨_, rfl⟩
      have HN := hide hn
      have HM : Hid (l.length = n) := hide (by omega)
      rw [← hlen, ← hn]
      rw [← hn] at hma
      clear hpa hpb hca hcb h0 hmb hlen hn
      go_enter Try.func100, Try.ntmps100
      go_wp2
      go_loopw [14] (fun i w' => ∃ k : Nat, k ≤ n ∧ i = .int .i64 k ∧ (∀ t, (h1 : t < m.length) → (h2 : t < l.length) → t < k → (m[t] == l[t]) = true) ∧ Below w.heap.size w w') (fun i _ => n - (intOf i).toNat)
      case atStart => exact ⟨0, Nat.zero_le _, rfl, fun t _ _ h => absurd h (Nat.not_lt_zero _), Below.refl _ _⟩
      case round =>
        obtain ⟨k, hk, rfl, hall, hbb⟩ := hrel
        have HH := hide hall; have HBB := hide hbb
        clear hall hbb
        by_cases hlt : k < n
        · have hkr : k < m.length := by rw [← HN.out]; exact hlt
          have hks : k < l.length := by rw [HM.out]; exact hlt
          obtain ⟨ua, hxa, hra⟩ := HA.out k hkr
          obtain ⟨ub, hxb, hrb⟩ := HB.out k hks
          have hxa := below_cell HBB.out hga hxa
          have hxb := below_cell HBB.out hgb hxb
          have HRA := hide (inRow_below hra HBB.out)
          have HRB := hide (inRow_below hrb HBB.out)
          have HNO := hide (fun h => sameMat_no2 k hkr hks h)
          have HST : Hid ((m[k] == l[k]) = true → ∀ t, (h1 : t < m.length) → (h2 : t < l.length) → t < k + 1 → (m[t] == l[t]) = true) := hide fun h t h1 h2 ht => by
            by_cases e : t = k
            · subst e; exact h
            · exact HH.out t h1 h2 (by omega)
          clear hra hrb
          cases e : (m[k] == l[k]) with
          | true =>
            have HE := hide e
            have HST := hide (HST.out e)
            clear e
            go_wp2_with (go_at_call 97; refine (l02Same_any _ _ _ _ _ HRA.out HRB.out).mono ?_; rw [HE.out]; rintro e w9 ⟨rfl, rfl⟩)
            go_roundw
            case rel => exact ⟨k + 1, by omega, by go_num, HST.out, HBB.out⟩
            case measure => simp [intOf]; omega
          | false =>
            have HE := hide e
            have HF := hide (HNO.out e)
            clear e
            go_wp2_with (go_at_call 97; refine (l02Same_any _ _ _ _ _ HRA.out HRB.out).mono ?_; rw [HE.out]; rintro e w9 ⟨rfl, rfl⟩)
            go_ret
            exact ⟨ret_bool HF.out.symm, HBB.out⟩
        · have HY := hide (sameMat_yes HL.out fun t h1 h2 => HH.out t h1 h2 (by have := HN.out; omega))
          go_wp2
          go_ret
          exact ⟨ret_bool HY.out.symm, HBB.out⟩
  · have HF := hide (sameMat_no hlen)
    obtain ⟨n, hn⟩ : ∃ n, n = m.length := ⟨_, rfl⟩
    obtain ⟨k, hk⟩ : ∃ k, k = l.length := ⟨_, rfl⟩
    rw [← hn, ← hk] at hlen ⊢
    rw [← hn] at hma
    rw [← hk] at hmb
    have hne : ((n : Int) == (k : Int)) = false := by simp; omega
    have hne2 : ((n : Int) != (k : Int)) = true := by simp; omega
    clear hpa hpb hn hk hlen
    go_enter Try.func100, Try.ntmps100
    go_wp2
    go_ret
    exact ⟨ret_bool HF.out.symm, Below.refl _ _⟩

end Go.Proofs.Ytpfaaglaeholbaa
/-
  PutCell and DistanceOf of the program.
-/
namespace Go.Proofs.Ytpfaaglaeholbaa
open Go.RowKit

/-- The whole variable is read, behind a guard that says yes. -/
theorem wpList_loadVecG {P : Program} {ops : Array Oper} {rest : List Oper} {o : Oper} {a : Act} {Q : Exit → Act → World → Prop} {W : World} {g n m : Nat} {T T' e : TypeId} {F : Nat → Int} (hb : Blk W g T n F) (d : Tmp) (_hd : o.dst = some d)
    (hw : Region.wanted o (yielded ops a.tmps) = true) (x : Operand) (ho : o.op = .load T' x) (hx : a.eval x = .pointer (some ⟨g, 0, none⟩)) (hu : P.underlying T' = some (.array m e)) (hi : (P.info? T').map (·.size) = some n)
    (h : wpList P ops Q rest (a.put o.dst (.agg (vec n F))) W) : wpList P ops Q (o :: rest) a W :=
  BigFrame.wpList_want hw fun K hK => wp_load_row T' x ho g hx T (vec n F) (0, 0) _ hb hu rfl (by rw [hi, vec_size]) (hK _ _ h)

/-- The image with another cell. -/
def putM (f : Nat → Nat → Int) (a b : Nat) (c : Int) (y x : Nat) : Int := if y = a ∧ x = b then c else f y x
theorem img_put {R C : Nat} {f : Nat → Nat → Int} (h : Img R C f) (a b : Nat) {c : Int} (hc : c = 0 ∨ c = 1) : Img R C (putM f a b c) := ⟨h.r1, h.r2, h.c1, h.c2, fun y x hy hx => by
  unfold putM; split
  · exact hc
  · exact h.cell y x hy hx⟩
theorem imgF_put (R C : Nat) (f : Nat → Nat → Int) (a b : Nat) (c : Int) (ha : a < R) (hb : b < C) (hC : C ≤ 5) : ∀ i, i < 25 → (if i = 5 * a + b then c else imgF R C f i) = imgF R C (putM f a b c) i := fun i hi => by
  simp only [imgF, putM]
  by_cases e : i = 5 * a + b
  · subst e
    rw [if_pos rfl, if_pos (by omega), if_pos (by omega)]
  · rw [if_neg e]
    by_cases h : i / 5 < R ∧ i % 5 < C
    · rw [if_pos h, if_pos h, if_neg (by omega)]
    · rw [if_neg h, if_neg h]

end Go.Proofs.Ytpfaaglaeholbaa
/-
  DistanceOf of the program.
-/
namespace Go.Proofs.Ytpfaaglaeholbaa
open Go.RowKit

theorem imageOf_any (v : Value) (m : List (List Int)) (w : World) (hin : InMat w v m) :
    Calls Try.prog 49 #[v] w fun e w' => (∃ F, e = .returned (.tuple #[.agg (vec 25 F), .bool (okB m)])) ∧ Below w.heap.size w w' := by
  cases h : okB m with
  | false =>
    refine (imageOf_no v m w hin h).mono ?_
    rintro e w' ⟨rfl, hb⟩
    exact ⟨⟨_, rfl⟩, hb⟩
  | true =>
    obtain ⟨R, C, f, rfl, hI⟩ := ok_img h
    refine (imageOf_yes v R C f w hin hI).mono ?_
    rintro e w' ⟨rfl, hb⟩
    exact ⟨⟨_, rfl⟩, hb⟩
theorem imgF_none {R C : Nat} {f : Nat → Nat → Int} (h : Img R C f) (i : Nat) : imgF R C f i = -1 ↔ ¬ (i / 5 < R ∧ i % 5 < C) := by
  unfold imgF
  by_cases hi : i / 5 < R ∧ i % 5 < C
  · rw [if_pos hi]
    constructor
    · intro e; rcases h.cell _ _ hi.1 hi.2 with e' | e' <;> rw [e'] at e <;> cases e
    · intro e; exact absurd hi e
  · rw [if_neg hi]; exact ⟨fun _ => hi, fun _ => rfl⟩
theorem same_sizes {R C R' C' : Nat} {f g : Nat → Nat → Int} (h : Img R C f) (h' : Img R' C' g) : decide (R = R' ∧ C = C') = true ↔ ∀ i, i < 25 → (imgF R C f i = -1 ↔ imgF R' C' g i = -1) := by
  have a1 := h.r1; have a2 := h.r2; have a3 := h.c1; have a4 := h.c2
  have b1 := h'.r1; have b2 := h'.r2; have b3 := h'.c1; have b4 := h'.c2
  rw [decide_eq_true_eq]
  constructor
  · rintro ⟨rfl, rfl⟩ i hi
    rw [imgF_none h, imgF_none h']
  · intro hall
    have hq : ∀ y x, y < 5 → x < 5 → ((y < R ∧ x < C) ↔ (y < R' ∧ x < C')) := fun y x hy hx => by
      have := hall (5 * y + x) (by omega)
      rw [imgF_none h, imgF_none h', show (5 * y + x) / 5 = y by omega, show (5 * y + x) % 5 = x by omega] at this
      exact ⟨fun h1 => Decidable.byContradiction fun n => (this.2 n) h1, fun h1 => Decidable.byContradiction fun n => (this.1 n) h1⟩
    constructor
    · by_cases l : R < R'
      · have := (hq R 0 (by omega) (by omega)).2 ⟨l, by omega⟩; omega
      · by_cases l2 : R' < R
        · have := (hq R' 0 (by omega) (by omega)).1 ⟨l2, by omega⟩; omega
        · omega
    · by_cases l : C < C'
      · have := (hq 0 C (by omega) (by omega)).2 ⟨by omega, l⟩; omega
      · by_cases l2 : C' < C
        · have := (hq 0 C' (by omega) (by omega)).1 ⟨by omega, l2⟩; omega
        · omega
theorem distance_img (R C R' C' : Nat) (f g : Nat → Nat → Int) (w : World) (h : Img R C f) (h' : Img R' C' g) (b : Bool) (hb : decide (R = R' ∧ C = C') = b) :
    Calls Try.prog 57 #[.agg (vec 25 (imgF R C f)), .agg (vec 25 (imgF R' C' g))] w (DistRes b (cnt (fun i => imgF R C f i != imgF R' C' g i) 25) w) := by
  subst hb; exact distance_any _ _ _ _ (same_sizes h h')

set_option maxHeartbeats 1000000 in
theorem implDistanceOf_no (v u : Value) (m k : List (List Int)) (w : World) (hin : InMat w v m) (hin2 : InMat w u k) (h : (okB m && okB k) = false) :
    Calls Try.prog 13 #[v, u] w fun e w' => e = .returned (.int .i64 (-1)) ∧ Below w.heap.size w w' := by
  have HI := hide hin; have HI2 := hide hin2
  clear hin hin2
  obtain ⟨p, hp⟩ : ∃ p, p = okB m := ⟨_, rfl⟩
  obtain ⟨q, hq⟩ : ∃ q, q = okB k := ⟨_, rfl⟩
  rw [← hp, ← hq] at h
  have HP := hide hp.symm; have HQ := hide hq.symm
  clear hp hq
  go_enter Try.func13, Try.ntmps13
  go_wp2_with fail
  refine (imageOf_any v m _ HI.out).mono ?_
  rw [HP.out]
  rintro e w1 ⟨⟨F, rfl⟩, b1⟩
  have B1 := hide b1
  clear b1
  go_wp2_with (first | (with_reducible refine wpList_allocVec 25 5 rfl rfl rfl Try.zeroImg ?_; intro waa haa baa saa) | (with_reducible refine wpList_storeVec haa rfl (.tmp 5) (.tmp 14) rfl rfl rfl Try.sizeImg ?_; intro wba hba gba sba) | (with_reducible refine wpList_loadVec hba 99 rfl rfl _ rfl rfl Try.underlying65 Try.sizeImg ?_))
  have B2 := hide (B1.out.trans ((baa.mono B1.out.size).trans (grown_below gba (fun k hk => by cases hk; exact B1.out.size) (by have := B1.out.size; omega))))
  clear haa baa saa hba gba sba
  refine (imageOf_any u k _ (inMat_below HI2.out B2.out)).mono ?_
  rw [HQ.out]
  rintro e w3 ⟨⟨G, rfl⟩, b3⟩
  have B3 := hide (B2.out.trans (b3.mono B2.out.size))
  clear b3
  cases p with
  | false =>
    go_wp2_with (first | (with_reducible refine wpList_allocVec 25 7 rfl rfl rfl Try.zeroImg ?_; intro wab hab bab sab) | (with_reducible refine wpList_storeVec hab rfl (.tmp 7) (.tmp 19) rfl rfl rfl Try.sizeImg ?_; intro wbb hbb gbb sbb) | (with_reducible refine wpList_loadVec hbb 29 rfl rfl _ rfl rfl Try.underlying65 Try.sizeImg ?_))
    go_ret
    exact ⟨rfl, B3.out.trans ((bab.mono B3.out.size).trans (grown_below gbb (fun k hk => by cases hk; exact B3.out.size) (by have := B3.out.size; omega)))⟩
  | true =>
    obtain rfl : q = false := by simpa using h
    go_wp2_with (first | (with_reducible refine wpList_allocVec 25 7 rfl rfl rfl Try.zeroImg ?_; intro wab hab bab sab) | (with_reducible refine wpList_storeVec hab rfl (.tmp 7) (.tmp 19) rfl rfl rfl Try.sizeImg ?_; intro wbb hbb gbb sbb) | (with_reducible refine wpList_loadVec hbb 29 rfl rfl _ rfl rfl Try.underlying65 Try.sizeImg ?_))
    go_ret
    exact ⟨rfl, B3.out.trans ((bab.mono B3.out.size).trans (grown_below gbb (fun k hk => by cases hk; exact B3.out.size) (by have := B3.out.size; omega)))⟩

set_option maxHeartbeats 1000000 in
theorem implDistanceOf_yes (v u : Value) (R C R' C' : Nat) (f g : Nat → Nat → Int) (w : World) (hin : InMat w v (mkM R C f)) (hin2 : InMat w u (mkM R' C' g)) (h : Img R C f) (h' : Img R' C' g) :
    Calls Try.prog 13 #[v, u] w fun e w' => e = .returned (.int .i64 (if R = R' ∧ C = C' then (cnt (fun i => imgF R C f i != imgF R' C' g i) 25 : Nat) else -1)) ∧ Below w.heap.size w w' := by
  have HI := hide hin; have HI2 := hide hin2; have H := hide h; have H' := hide h'
  clear hin hin2 h h'
  obtain ⟨b, hb⟩ : ∃ b : Bool, decide (R = R' ∧ C = C') = b := ⟨_, rfl⟩
  have HB := hide hb
  have HE : Hid ((if R = R' ∧ C = C' then ((cnt (fun i => imgF R C f i != imgF R' C' g i) 25 : Nat) : Int) else -1) = if b then ((cnt (fun i => imgF R C f i != imgF R' C' g i) 25 : Nat) : Int) else -1) := hide (by
    subst hb
    by_cases e : R = R' ∧ C = C'
    · rw [if_pos e, decide_eq_true e]; rfl
    · rw [if_neg e, decide_eq_false e]; rfl)
  rw [HE.out]
  clear hb HE
  obtain ⟨n, hn⟩ : ∃ n, n = cnt (fun i => imgF R C f i != imgF R' C' g i) 25 := ⟨_, rfl⟩
  have HN := hide hn.symm
  rw [← hn]
  clear hn
  go_enter Try.func13, Try.ntmps13
  go_wp2_with fail
  refine (imageOf_yes v R C f _ HI.out H.out).mono ?_
  rintro e w1 ⟨rfl, b1⟩
  have B1 := hide b1
  clear b1
  go_wp2_with (first | (with_reducible refine wpList_allocVec 25 5 rfl rfl rfl Try.zeroImg ?_; intro waa haa baa saa) | (with_reducible refine wpList_storeVec haa rfl (.tmp 5) (.tmp 14) rfl rfl rfl Try.sizeImg ?_; intro wba hba gba sba) | (with_reducible refine wpList_loadVec hba 99 rfl rfl _ rfl rfl Try.underlying65 Try.sizeImg ?_))
  have B2 := hide (B1.out.trans ((baa.mono B1.out.size).trans (grown_below gba (fun k hk => by cases hk; exact B1.out.size) (by have := B1.out.size; omega))))
  have HA := hide hba
  clear haa baa saa hba gba sba
  refine (imageOf_yes u R' C' g _ (inMat_below HI2.out B2.out) H'.out).mono ?_
  rintro e w3 ⟨rfl, b3⟩
  have B3 := hide (B2.out.trans (b3.mono B2.out.size))
  have HA := hide (blk_below HA.out b3)
  clear b3
  go_wp2_with (first | (with_reducible refine wpList_allocVec 25 7 rfl rfl rfl Try.zeroImg ?_; intro wab hab bab sab) | (with_reducible refine wpList_storeVec hab rfl (.tmp 7) (.tmp 19) rfl rfl rfl Try.sizeImg ?_; intro wbb hbb gbb sbb) | (with_reducible refine wpList_loadVec hbb 29 rfl rfl _ rfl rfl Try.underlying65 Try.sizeImg ?_) | (with_reducible refine wpList_loadVec (blk_grown (blk_below HA.out bab) gbb (by have := blk_lt HA.out; simp; omega)) 28 rfl rfl _ rfl rfl Try.underlying65 Try.sizeImg ?_))
  have B4 := hide (B3.out.trans ((bab.mono B3.out.size).trans (grown_below gbb (fun k hk => by cases hk; exact B3.out.size) (by have := B3.out.size; omega))))
  clear hab bab sab hbb gbb sbb HA
  refine (distance_img R C R' C' f g _ H.out H'.out b HB.out).mono ?_
  rw [HN.out]
  rintro e w5 ⟨rfl, b5⟩
  have B5 := hide (B4.out.trans (b5.mono B4.out.size))
  clear b5
  cases b with
  | false =>
    go_wp2
    go_ret
    exact ⟨rfl, B5.out⟩
  | true =>
    go_wp2
    go_ret
    exact ⟨rfl, B5.out⟩
end Go.Proofs.Ytpfaaglaeholbaa
