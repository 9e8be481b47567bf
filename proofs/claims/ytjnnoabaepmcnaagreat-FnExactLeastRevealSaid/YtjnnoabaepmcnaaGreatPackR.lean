/-
  Texts of this claim, one behind the other: RevT, LrS, LawsLr.
-/
import Derived.Test.YtjnnoabaepmcnaaGreatPackQ
import Derived.Test.YtjnnoabaepmcnaaGreatPackH
import Derived.Test.YtjnnoabaepmcnaaGreatPackA
import Derived.Test.YtjnnoabaepmcnaaGreatPackG
/-
  CountAgreeing and IsEnough of the model, from l12Count on.
-/
namespace Go.Proofs.YtjnnoabaepmcnaaGreat
open Go.RowKit Go.Shelf

theorem take_filter_succ {α : Type} (p : α → Bool) (l : List α) {k : Nat} (h : k < l.length) : ((l.take (k + 1)).filter p).length = ((l.take k).filter p).length + if p l[k] = true then 1 else 0 := by
  rw [List.take_succ_eq_append_getElem h, List.filter_append, List.length_append]
  cases hp : p l[k] <;> simp [hp]
set_option maxHeartbeats 1000000 in
theorem l12Count_any (vL va vc : Value) (L : List (List (List Int))) (R C : Nat) (f : Nat → Nat → Int) (l : List Int) (lo : Nat) (w : World) (hL : OwnImgs w lo vL L) (hlen : L.length ≤ 1000000) (hmk : ∀ o ∈ L, o = mkM R C (cellM o)) (ha : InMat w va (mkM R C f)) (hc : InRow w vc l) (hR : 1 ≤ R ∧ R ≤ 5) (hC : 1 ≤ C ∧ C ≤ 5) (hl : ∀ k ∈ l, 0 ≤ k ∧ k < (R * C : Nat)) :
    Calls Tryz.prog 25 #[vL, va, vc] w fun e w' => e = .returned (.int .i64 ((L.filter fun o => agB C f (cellM o) l).length : Nat)) ∧ Below w.heap.size w w' := by
  obtain ⟨us, hv, hm⟩ := hL
  have HMK := hide hmk; have HA := hide ha; have HC := hide hc; have HR := hide (And.intro hR hC); have HL := hide hl
  obtain ⟨aL, cL, rfl⟩ := own_slice hv
  have HV := hide hv; have HM := hide hm
  obtain ⟨n, hn⟩ : ∃ n, n = L.length := ⟨_, rfl⟩
  have HN := hide hn
  rw [← hn] at hlen ⊢
  obtain ⟨aa, ca, rfl, -, -⟩ := ha
  obtain ⟨ac, cc, rfl, -, -⟩ := hc
  generalize l.length = nl at *
  generalize (mkM R C f).length = nm at *
  clear hv hm hmk hR hC hl hn
  go_enter Tryz.func25, Tryz.ntmps25
  go_wp2
  go_loopw [7, 12] (fun q i w' => ∃ k : Nat, k ≤ n ∧ i = .int .i64 k ∧ q = .int .i64 (((L.take k).filter fun o => agB C f (cellM o) l).length : Nat) ∧ Below w.heap.size w w') (fun _ i _ => n - (intOf i).toNat)
  case atStart => exact ⟨0, Nat.zero_le _, rfl, rfl, Below.refl _ _⟩
  case round =>
    obtain ⟨k, hk, rfl, rfl, hb⟩ := hrel
    have HB := hide hb
    clear hb
    by_cases hlt : k < n
    · have hltI : (k : Int) < n := by omega
      have hkL : k < L.length := by rw [← HN.out]; exact hlt
      have hT := take_filter_succ (fun o => agB C f (cellM o) l) L hkL
      have hle : ((L.take k).filter fun o => agB C f (cellM o) l).length ≤ 1000000 := by
        have h1 := List.length_filter_le (fun o => agB C f (cellM o) l) (L.take k)
        rw [List.length_take] at h1; omega
      obtain ⟨gL, capL, hvg⟩ : ∃ g c, Value.slice aL L.length cL = .slice (some ⟨g, 0, none⟩) L.length c := by
        rcases HV.out.2 with ⟨e, h0⟩ | ⟨g, cap, cur, e, -⟩
        · omega
        · exact ⟨g, cap, e⟩
      cases hvg
      obtain ⟨ax, nx, cx, -, hcell, hin⟩ := ownImgs_at HV.out HM.out hkL
      have hgl := (HV.out.lt gL rfl).2
      have hcell := below_cell HB.out hgl hcell
      rw [HMK.out _ (List.getElem_mem hkL)] at hin
      have HAG := hide (l12Agrees_any (.slice aa nm ca) (.slice ax nx cx) (.slice ac nl cc) R C f (cellM L[k]) l wr (inMat_below HA.out HB.out) (inMat_below hin HB.out) (inRow_below HC.out HB.out) HR.out.1 HR.out.2 HL.out)
      obtain ⟨q, hq⟩ : ∃ q, q = agB C f (cellM L[k]) l := ⟨_, rfl⟩
      rw [← hq] at HAG
      simp only [← hq] at hT
      obtain ⟨S, hS⟩ : ∃ S, S = ((L.take k).filter fun o => agB C f (cellM o) l).length := ⟨_, rfl⟩
      rw [← hS] at hT hle ⊢
      have HT := hide hT
      clear hT hin hq hS
      go_wp2_with fail
      refine HAG.out.mono ?_
      rintro e w2 ⟨rfl, hb2⟩
      have HB2 := hide (HB.out.trans (hb2.mono HB.out.size))
      clear hb2
      cases q with
      | true =>
        go_wp2
        go_roundw
        case rel => exact ⟨k + 1, by omega, by go_num, by rw [HT.out]; go_num, HB2.out⟩
        case measure => simp [intOf]; omega
      | false =>
        go_wp2
        go_roundw
        case rel => exact ⟨k + 1, by omega, by go_num, by rw [HT.out]; rfl, HB2.out⟩
        case measure => simp [intOf]; omega
    · obtain rfl : k = n := by omega
      have HT : Hid (L.take k = L) := hide (List.take_of_length_le (by rw [← HN.out]; exact Nat.le_refl _))
      rw [HT.out]
      go_wp2
      go_ret
      exact ⟨rfl, HB.out⟩
theorem cntAg_yes {R C : Nat} {f : Nat → Nat → Int} {l : List Int} (hI : Img R C f) (h : revB (mkM R C f) l = true) (hcells : ∀ k ∈ l, 0 ≤ k ∧ k < (R * C : Nat)) : cntAg (mkM R C f) l = ((agL R C f l).length : Nat) := by
  have hR1 := hI.r1; have hC1 := hI.c1
  rw [cntAg, h, if_pos rfl, mkM_len, width_mkM hR1]
  unfold agL simL
  have e1 : rowsL R C (cellM (mkM R C f)) = rowsL R C f := rowsL_congr fun y x hy hx => cell_mk R C f hy hx
  have e2 : rowsL C R (trM (cellM (mkM R C f))) = rowsL C R (trM f) := rowsL_congr fun y x hy hx => cell_mk R C f hx hy
  rw [e1, e2, List.filter_congr fun o _ => agB_congr (g := cellM o) (show 0 < C by omega) hcells fun y x hy hx => cell_mk R C f hy hx]
set_option maxHeartbeats 1000000 in
theorem specCountAg_any (va vb : Value) (m : List (List Int)) (l : List Int) (w : World) (ha : InMat w va m) (hb : InRow w vb l) :
    Calls Tryz.prog 7 #[va, vb] w fun e w' => e = .returned (.int .i64 (cntAg m l)) ∧ Below w.heap.size w w' := by
  have HOK := hide (l12Ok_any va vb m l w ha hb)
  cases h : revB m l with
  | false =>
    rw [h] at HOK
    have HF : Hid (cntAg m l = -1) := hide (by rw [cntAg, h]; rfl)
    rw [HF.out]
    obtain ⟨a, ca, rfl, -, -⟩ := ha
    obtain ⟨b, cb, rfl, -, -⟩ := hb
    generalize m.length = M at *
    generalize l.length = L at *
    clear h HF
    go_enter Tryz.func7, Tryz.ntmps7
    go_wp2_with (go_at_call 21; refine HOK.out.mono ?_; rintro e w1 ⟨rfl, b1⟩; have B1 := hide b1; clear b1)
    go_ret
    exact ⟨rfl, B1.out⟩
  | true =>
    rw [h] at HOK
    have h' := h
    rw [revB, Bool.and_eq_true] at h'
    obtain ⟨R, C, f, rfl, hI⟩ := ok_img h'.1
    have hR1 := hI.r1; have hC1 := hI.c1; have hR := hI.r2; have hC := hI.c2
    have hw := width_mkM (C := C) (f := f) (show 0 < R by omega)
    rw [mkM_len, hw] at h'
    have hcells := asc_cells h'.2
    rw [cntAg_yes hI h hcells]
    unfold agL
    have HIM := hide hI
    have HRW := hide fun (w' : World) (hw' : Below w.heap.size w w') => specRowSums_yes va R C f w' (inMat_below ha hw') hI
    have HCW := hide fun (w' : World) (hw' : Below w.heap.size w w') => specColSums_yes va R C f w' (inMat_below ha hw') hI
    have HSO := hide (sumsOk_img hI)
    have HMK := hide fun (o : List (List Int)) (ho : o ∈ simL R C f) => (allL_I hI ho).1
    have HLEN := hide (show (simL R C f).length ≤ 1000000 by have := simL_len R C f ⟨hR1, hR⟩ ⟨hC1, hC⟩; omega)
    have HAL := hide fun (vr vc : Value) (w' : World) (h1 : RowC w' vr (rowsL R C f)) (h2 : RowC w' vc (rowsL C R (trM f))) => specAllIm_any vr vc _ _ w' h1 h2
    rw [allIm_sums HSO.out, HSO.out] at HAL
    have HCT := hide fun (vL : Value) (lo : Nat) (w' : World) (hw' : Below w.heap.size w w') (ho : OwnImgs w' lo vL (simL R C f)) => l12Count_any vL va vb (simL R C f) R C f l lo w' ho HLEN.out HMK.out (inMat_below ha hw') (inRow_below hb hw') ⟨hR1, hR⟩ ⟨hC1, hC⟩ hcells
    obtain ⟨L, hL⟩ : ∃ L, L = simL R C f := ⟨_, rfl⟩
    have hL2 : allL (rowsL R C f) (rowsL C R (trM f)) = L := hL.symm
    rw [hL2] at HAL
    rw [← hL] at HCT HLEN ⊢
    obtain ⟨rr, hrr⟩ : ∃ rr, rr = rowsL R C f := ⟨_, rfl⟩
    obtain ⟨kk, hkk⟩ : ∃ kk, kk = rowsL C R (trM f) := ⟨_, rfl⟩
    rw [← hrr] at HRW HAL
    rw [← hkk] at HCW HAL
    obtain ⟨a, ca, rfl, -, -⟩ := ha
    obtain ⟨b, cb, rfl, -, -⟩ := hb
    generalize l.length = nl at *
    generalize (mkM R C f).length = M at *
    clear h h' hw hcells hI hL hL2 hrr hkk HSO HMK HIM
    go_enter Tryz.func7, Tryz.ntmps7
    go_wp2_with (first | (go_at_call 21; refine HOK.out.mono ?_; rintro e w1 ⟨rfl, b1⟩; have B1 := hide b1; clear b1) | (go_at_call 23; refine (HRW.out _ B1.out).mono ?_; rintro e w2 ⟨u2, rfl, ho, hb2⟩; have HO2 := hide (rowC_own ho); have B2 := hide (B1.out.trans (hb2.mono B1.out.size)); obtain ⟨ra, rc, rfl⟩ := own_slice ho; clear ho hb2) | (go_at_call 24; refine (HCW.out _ B2.out).mono ?_; rintro e w3 ⟨u3, rfl, ho, hb3⟩; have HO3 := hide (rowC_own ho); have HO23 := hide (rowC_below HO2.out hb3); have B3 := hide (B2.out.trans (hb3.mono B2.out.size)); obtain ⟨sa, sc, rfl⟩ := own_slice ho; clear ho hb3) | (go_at_call 22; refine (HAL.out _ _ _ HO23.out HO3.out).mono ?_; rintro e w4 ⟨u4, rfl, ho, hb4⟩; have HO4 := hide ho; have B4 := hide (B3.out.trans (hb4.mono B3.out.size)); clear ho hb4))
    obtain ⟨ia, ic, rfl⟩ : ∃ a c, u4 = .slice a L.length c := by obtain ⟨us, hv, -⟩ := HO4.out; exact own_slice hv
    refine (HCT.out _ _ _ B4.out HO4.out).mono ?_
    rintro e w5 ⟨rfl, hb5⟩
    have B5 := hide (B4.out.trans (hb5.mono B4.out.size))
    clear hb5
    go_wp2
    go_ret
    exact ⟨rfl, B5.out⟩
set_option maxHeartbeats 1000000 in
theorem specIsEnough_any (va vb : Value) (m : List (List Int)) (l : List Int) (w : World) (ha : InMat w va m) (hb : InRow w vb l) :
    Calls Tryz.prog 13 #[va, vb] w fun e w' => e = .returned (.bool (cntAg m l == 1)) ∧ Below w.heap.size w w' := by
  have HC := hide (specCountAg_any va vb m l w ha hb)
  obtain ⟨n, hn⟩ : ∃ n, n = cntAg m l := ⟨_, rfl⟩
  rw [← hn] at HC ⊢
  obtain ⟨a, ca, rfl, -, -⟩ := ha
  obtain ⟨b, cb, rfl, -, -⟩ := hb
  generalize m.length = M at *
  generalize l.length = L at *
  clear hn
  go_enter Tryz.func13, Tryz.ntmps13
  go_wp2_with fail
  refine HC.out.mono ?_
  rintro e w1 ⟨rfl, b1⟩
  have B1 := hide b1
  clear b1
  go_wp2
  go_ret
  exact ⟨by first | rfl | exact ret_bool (by rw [Bool.eq_iff_iff]; simp), B1.out⟩
end Go.Proofs.YtjnnoabaepmcnaaGreat
/-
  LeastReveal of the model.
-/
namespace Go.Proofs.YtjnnoabaepmcnaaGreat
open Go.RowKit Go.Shelf

/-- What the model's search answers: a list of its own from lo on, where there is one. -/
def SeRes (lo : Nat) (o : Option (List Int)) (w : World) (e : Ending) (w' : World) : Prop := ∃ u, e = .returned (.tuple #[u, .bool o.isSome]) ∧ (∃ a n c, u = .slice a n c) ∧ (∀ r, o = some r → w'.ownsRow lo 3 1 u r.length (ints r)) ∧ Below w.heap.size w w'
theorem srch_miss {en : List Int → Bool} {N n first : Nat} {d : List Int} (h : ∀ t, first ≤ t → t < N → srch en N n (d ++ [(t : Int)]) (t + 1) = none) : srch en N (n + 1) d first = none := by
  unfold srch
  exact goS_miss fun t h1 h2 => h t h1 (by omega)
theorem srch_hit {en : List Int → Bool} {N n first k : Nat} {d o : List Int} (hk : first ≤ k) (hN : k < N) (h : ∀ t, first ≤ t → t < k → srch en N n (d ++ [(t : Int)]) (t + 1) = none) (ho : srch en N n (d ++ [(k : Int)]) (k + 1) = some o) : srch en N (n + 1) d first = some o := by
  unfold srch
  exact goS_hit (j := k - first) (by omega) (fun t h1 h2 => h t h1 (by omega)) (by rw [show first + (k - first) = k by omega]; exact ho)
set_option maxRecDepth 100000 in
set_option maxHeartbeats 4000000 in
theorem l12Search_any {R C : Nat} {f : Nat → Nat → Int} (hI : Img R C f) : ∀ (n : Nat) (d : List Int) (first lo loL : Nat) (vL vm vd : Value) (w : World), OwnImgs w loL vL (simL R C f) → InMat w vm (mkM R C f) → w.ownsRow lo 3 1 vd d.length (ints d) → lo ≤ w.heap.size → (∀ k ∈ d, 0 ≤ k ∧ k < ((R * C : Nat) : Int)) → d.length + n ≤ 60 → first ≤ 30 → n ≤ 30 →
    Calls Tryz.prog 30 #[vL, vm, vd, .int .i64 first, .int .i64 n] w (SeRes lo (srch (enB R C f) (R * C) n d first) w) := by
  intro n
  induction n with
  | zero =>
    intro d first lo loL vL vm vd w hL hm hd hlo hcells hlen hf _
    have hR1 := hI.r1; have hC1 := hI.c1; have hR5 := hI.r2; have hC5 := hI.c2
    have HLEN := simL_len R C f ⟨hR1, hR5⟩ ⟨hC1, hC5⟩
    have HCT := hide (l12Count_any vL vm vd (simL R C f) R C f d loL w hL (by omega) (fun o ho => (allL_I hI ho).1) hm (inRow_own hd) ⟨hR1, hR5⟩ ⟨hC1, hC5⟩ hcells)
    have HD := hide hd
    have hle : ((simL R C f).filter fun o => agB C f (cellM o) d).length ≤ 1000000 := Nat.le_trans (List.length_filter_le _ _) (by omega)
    have hen : enB R C f d = (((simL R C f).filter fun o => agB C f (cellM o) d).length == 1) := rfl
    obtain ⟨q, hq⟩ : ∃ q, q = ((simL R C f).filter fun o => agB C f (cellM o) d).length := ⟨_, rfl⟩
    rw [← hq] at HCT hle hen
    obtain ⟨aL, nL, cL, rfl⟩ : ∃ a n c, vL = .slice a n c := by obtain ⟨us, hv, -⟩ := hL; obtain ⟨a, c, h⟩ := own_slice hv; exact ⟨a, _, c, h⟩
    obtain ⟨am, cm, rfl, -, -⟩ := hm
    obtain ⟨ad, cd, rfl⟩ := own_slice hd
    by_cases h : q = 1
    · have HE : Hid (srch (enB R C f) (R * C) 0 d first = some d) := hide (by unfold srch; rw [hen, h]; rfl)
      obtain ⟨Rs, hRs⟩ : ∃ Rs, Rs = srch (enB R C f) (R * C) 0 d first := ⟨_, rfl⟩
      rw [← hRs] at HE ⊢
      subst h
      generalize (mkM R C f).length = nm at *
      clear hL hd hen hq hRs HLEN hcells
      go_enter Tryz.func30, Tryz.ntmps30
      go_wp2_with (refine HCT.out.mono ?_; rintro e w1 ⟨rfl, hb⟩; have HB := hide hb; clear hb)
      refine bodyPost_ret (results_tmp2 rfl _ _ _) rfl ?_
      rw [HE.out]
      exact ⟨_, rfl, ⟨_, _, _, rfl⟩, fun r hr => (by cases hr; exact own_below HD.out HB.out), HB.out⟩
    · have HE : Hid (srch (enB R C f) (R * C) 0 d first = none) := hide (by
        unfold srch
        rw [hen, if_neg (by simpa using h)])
      obtain ⟨Rs, hRs⟩ : ∃ Rs, Rs = srch (enB R C f) (R * C) 0 d first := ⟨_, rfl⟩
      rw [← hRs] at HE ⊢
      have hbeq : ((q : Int) == 1) = false := beq_eq_false_iff_ne.2 (by omega)
      generalize (mkM R C f).length = nm at *
      clear hL hd hen hq hRs HLEN hcells
      go_enter Tryz.func30, Tryz.ntmps30
      go_wp2_with (refine HCT.out.mono ?_; rintro e w1 ⟨rfl, hb⟩; have HB := hide hb; clear hb)
      refine bodyPost_ret (results_tmp2 rfl _ _ _) rfl ?_
      rw [HE.out]
      exact ⟨_, rfl, ⟨_, _, _, rfl⟩, fun r hr => (by cases hr), HB.out⟩
  | succ n ih =>
    intro d first lo loL vL vm vd w hL hm hd hlo hcells hlen hf hn30
    have hR1 := hI.r1; have hC1 := hI.c1; have hR5 := hI.r2; have hC5 := hI.c2
    have HIL := hide hL; have HIM := hide hm; have HD := hide hd; have HCELLS := hide hcells
    have HIH := hide ih
    have hlen2 : d.length < 100 := by omega
    have HLN := hide hlen
    obtain ⟨aL, nL, cL, rfl⟩ : ∃ a n c, vL = .slice a n c := by obtain ⟨us, hv, -⟩ := hL; obtain ⟨a, c, h⟩ := own_slice hv; exact ⟨a, _, c, h⟩
    obtain ⟨gm, om, cm, rfl, hgm, hra⟩ := inMat_img hm (by omega) (by omega)
    obtain ⟨g0, o0, k0, hc0, -, -⟩ := hra 0 (by omega)
    rw [Nat.add_zero] at hc0
    have HC0 := hide hc0; have HGM := hide hgm
    obtain ⟨ad, cd, rfl⟩ := own_slice hd
    obtain ⟨N, hNe⟩ : ∃ N, N = R * C := ⟨_, rfl⟩
    have hN25 : N ≤ 25 := by rw [hNe]; exact Nat.mul_le_mul hR5 hC5
    have hmul : (R : Int) * (C : Int) = (N : Int) := by rw [hNe]; simp
    rw [← hNe] at HIH HCELLS ⊢
    have HMISS := hide fun h => srch_miss (en := enB R C f) (N := N) (n := n) (first := first) (d := d) h
    have HHIT := hide fun k o h1 h2 h3 h4 => srch_hit (en := enB R C f) (N := N) (n := n) (first := first) (d := d) (k := k) (o := o) h1 h2 h3 h4
    obtain ⟨Rs, hRs⟩ : ∃ Rs, Rs = srch (enB R C f) N (n + 1) d first := ⟨_, rfl⟩
    rw [← hRs] at HMISS HHIT ⊢
    obtain ⟨M, hM⟩ : ∃ M, M = n + 1 := ⟨_, rfl⟩
    rw [← hM]
    have hMb : ((M : Int) == 0) = false := beq_eq_false_iff_ne.2 (by omega)
    have hMn : (M : Int) - 1 = (n : Int) := by omega
    have hM30 : M ≤ 30 := by omega
    have hRp : (0 : Int) < R := by omega
    have HLO := hide hlo
    clear hL hm hd hcells hlen ih hRs hM hc0 hgm hra hNe hI hlo
    go_enter Tryz.func30, Tryz.ntmps30
    go_wp2
    go_loopw [12, 13, 14] (fun i _ _ w' => ∃ k : Nat, first ≤ k ∧ k ≤ 31 ∧ i = .int .i64 k ∧ (∀ t, first ≤ t → t < k → t < N → srch (enB R C f) N n (d ++ [(t : Int)]) (t + 1) = none) ∧ Below w.heap.size w w') (fun i _ _ _ => 31 - (intOf i).toNat)
    case atStart => exact ⟨first, Nat.le_refl _, by omega, rfl, fun t h1 h2 _ => by omega, Below.refl _ _⟩
    case round =>
      obtain ⟨k, hk, hk31, rfl, hall, hb⟩ := hrel
      have HA := hide hall; have HB := hide hb
      clear hall hb
      have hcr := below_cell HB.out HGM.out HC0.out
      by_cases hlt : k < N
      · have hltI : (k : Int) < N := by omega
        have HX : Hid ((wr.alloc (.cells #[] 3)).ownsRow wr.heap.size 3 1 (.slice (some ⟨wr.heap.size, 0, none⟩) 0 0) 0 []) := hide (World.ownsRow_made (base := wr.heap.size) wr #[] 0 (Nat.le_refl _) (Nat.zero_le _) rfl)
        have HAL := hide ((Below.refl wr.heap.size wr).alloc (Nat.le_refl _) (.cells #[] 3))
        have HD2 : Hid ((wr.alloc (.cells #[] 3)).ownsRow lo 3 1 (.slice ad d.length cd) d.length (ints d)) := hide (own_below (own_below HD.out HB.out) HAL.out)
        have hsz := HAL.out.size
        have hl1 : 0 + d.length < 4000000 := by omega
        have hl2 : d.length < 4000000 := by omega
        go_wp2_with (first | (refine wpList_appendOwn 40 rfl HX.out d HD2.out (.int .i64 0) rfl _ _ rfl Tryz.underlying23 Tryz.infoInt rfl (by decide) rfl rfl hl1 hsz ?_; intro u2 w2 hu2 hb2 hg2; rw [Nat.zero_add, List.nil_append] at hu2; have HU2 := hide hu2; have B2 := hide (HAL.out.trans hb2); have hsz2 := (HAL.out.trans hb2).size; clear hu2 hb2 hg2) | (at_builtin; refine wpList_push HU2.out (.int .i64 (k : Int)) (.int .i64 0) rfl _ _ rfl Tryz.underlying23 Tryz.infoInt rfl (by decide) rfl rfl rfl hl2 hsz2 ?_; intro u3 w3 hu3 hb3 hg3; have HU3 := hide hu3; have B3 := hide (B2.out.trans hb3); clear hu3 hb3 hg3))
        have hI3 : ints d ++ [.int .i64 (k : Int)] = ints (d ++ [(k : Int)]) := by simp [ints]
        have HU4 : Hid (w3.ownsRow wr.heap.size 3 1 u3 (d ++ [(k : Int)]).length (ints (d ++ [(k : Int)]))) := hide (by rw [← hI3, List.length_append, List.length_singleton]; exact HU3.out)
        have BW := hide (HB.out.trans (B3.out.mono HB.out.size))
        clear hI3
        refine (HIH.out (d ++ [(k : Int)]) (k + 1) wr.heap.size loL (.slice aL nL cL) (.slice (some ⟨gm, om, none⟩) R cm) u3 w3 (ownImgs_below HIL.out BW.out) (inMat_below HIM.out BW.out) HU4.out B3.out.size (fun x hx => by
          rcases List.mem_append.1 hx with h | h
          · exact HCELLS.out x h
          · rw [List.mem_singleton.1 h]; omega) (by rw [List.length_append, List.length_singleton]; have := HLN.out; omega) (by omega) (by omega)).mono ?_
        obtain ⟨o, hoe⟩ : ∃ o, o = srch (enB R C f) N n (d ++ [(k : Int)]) (k + 1) := ⟨_, rfl⟩
        have HOE := hide hoe
        rw [← hoe]
        clear hoe
        rintro e w4 ⟨u4, rfl, ⟨a4, n4, c4, rfl⟩, ho4, hb4⟩
        have HO4 := hide ho4
        have B4 := hide (BW.out.trans (hb4.mono BW.out.size))
        have HSZ := hide HB.out.size
        clear ho4 hb4
        cases o with
        | some o =>
          have HHE := hide (HHIT.out k o hk hlt (fun t h1 h2 => HA.out t h1 h2 (by omega)) HOE.out.symm)
          go_wp2
          refine bodyPost_ret (results_tmp2 rfl _ _ _) rfl ?_
          rw [HHE.out]
          refine ⟨_, rfl, ⟨_, _, _, rfl⟩, fun r hr => ?_, B4.out⟩
          cases hr
          exact own_base (HO4.out o rfl) (Nat.le_trans HLO.out HSZ.out)
        | none =>
          go_wp2
          go_roundw
          case rel => exact ⟨k + 1, by omega, by omega, by go_num, fun t h1 h2 h3 => by
            by_cases e : t = k
            · subst e; exact HOE.out.symm
            · exact HA.out t h1 (by omega) h3, B4.out⟩
          case measure => simp [intOf]; omega
      · have HE := hide (HMISS.out fun t h1 h2 => HA.out t h1 (by omega) h2)
        go_wp2
        refine bodyPost_ret (results_tmp2 rfl _ _ _) rfl ?_
        rw [HE.out]
        exact ⟨_, rfl, ⟨_, _, _, rfl⟩, fun r hr => (by cases hr), HB.out⟩
set_option maxRecDepth 100000 in
set_option maxHeartbeats 4000000 in
theorem specLeastReveal_any (v : Value) (m : List (List Int)) (w : World) (hin : InMat w v m) :
    Calls Tryz.prog 15 #[v] w (LrAns m w) := by
  have HOK := hide (specImageOk_any v m w hin)
  cases h : okB m with
  | false =>
    rw [h] at HOK
    have HF : Hid (lrB m = false) := hide (by unfold lrB; rw [h]; rfl)
    obtain ⟨a, ca, rfl, -, -⟩ := hin
    obtain ⟨M, hM⟩ : ∃ M, M = m.length := ⟨_, rfl⟩
    rw [← hM] at HOK ⊢
    clear h hM
    go_enter Tryz.func15, Tryz.ntmps15
    go_wp2_with (go_at_call 29; refine HOK.out.mono ?_; rintro e w1 ⟨rfl, rfl⟩)
    exact bodyPost_ret (results_tmp2 rfl _ _ _) rfl (lrAns_no HF.out (Below.refl _ _))
  | true =>
    rw [h] at HOK
    obtain ⟨R, C, f, rfl, hI⟩ := ok_img h
    have HOB := hide h
    have hR1 := hI.r1; have hC1 := hI.c1; have hR5 := hI.r2; have hC5 := hI.c2
    obtain ⟨gm, om, cm, rfl, hgm, hra⟩ := inMat_img hin (by omega) (by omega)
    obtain ⟨g0, o0, k0, hc0, -, -⟩ := hra 0 (by omega)
    rw [Nat.add_zero] at hc0
    have hRp : (0 : Int) < R := by omega
    obtain ⟨mm, hmm⟩ : ∃ mm, mm = mkM R C f := ⟨_, rfl⟩
    have HMM := hide hmm
    rw [← hmm]
    by_cases hR3 : 3 < R
    · have HF : Hid (lrB mm = false) := hide (by unfold lrB; rw [HMM.out, mkM_len, decide_eq_false (show ¬ R ≤ 3 by omega), Bool.and_false, Bool.false_and])
      have hR3I : (3 : Int) < R := by omega
      clear h hI hra hmm hin
      go_enter Tryz.func15, Tryz.ntmps15
      go_wp2_with (go_at_call 29; refine HOK.out.mono ?_; rintro e w1 ⟨rfl, rfl⟩)
      exact bodyPost_ret (results_tmp2 rfl _ _ _) rfl (lrAns_no HF.out (Below.refl _ _))
    · have hR3I : (R : Int) ≤ 3 := by omega
      by_cases hC4 : 4 < C
      · have HF : Hid (lrB mm = false) := hide (by unfold lrB; rw [HMM.out, mkM_len, width_mkM hR1, decide_eq_false (show ¬ C ≤ 4 by omega), Bool.and_false])
        have hC4I : (4 : Int) < C := by omega
        clear h hI hra hmm hin
        go_enter Tryz.func15, Tryz.ntmps15
        go_wp2_with (go_at_call 29; refine HOK.out.mono ?_; rintro e w1 ⟨rfl, rfl⟩)
        exact bodyPost_ret (results_tmp2 rfl _ _ _) rfl (lrAns_no HF.out (Below.refl _ _))
      · have hC4I : (C : Int) ≤ 4 := by omega
        obtain ⟨N, hNe⟩ : ∃ N, N = R * C := ⟨_, rfl⟩
        have hN12 : N ≤ 12 := by rw [hNe]; exact Nat.le_trans (Nat.mul_le_mul (show R ≤ 3 by omega) (show C ≤ 4 by omega)) (by decide)
        have hmul : (R : Int) * (C : Int) = (N : Int) := by rw [hNe]; simp
        have HSOME := hide (leastR_some hI)
        have HHIT := hide fun (n : Nat) (o : List Int) (h1 : n < N) (h2 : ∀ t, t < n → srch (enB R C f) N t [] 0 = none) (h3 : srch (enB R C f) N n [] 0 = some o) => lr_yes hI (by omega) (by omega) (show leastR R C f = some o by
          unfold leastR
          rw [← hNe]
          exact goS_hit (j := n) h1 (fun t _ h5 => h2 t (by omega)) (by rw [Nat.zero_add]; exact h3)) HOB.out
        have HNONE : Hid (¬ ∀ t, t < N → srch (enB R C f) N t [] 0 = none) := hide fun h => by
          obtain ⟨o, ho⟩ := HSOME.out
          unfold leastR at ho
          rw [← hNe, goS_miss fun t _ h2 => h t (by omega)] at ho
          cases ho
        have HSE := hide fun n (w2 : World) (lo loL : Nat) (vL vd : Value) (hw : Below w.heap.size w w2) (h1 : OwnImgs w2 loL vL (simL R C f)) (h2 : w2.ownsRow lo 3 1 vd 0 []) (h3 : lo ≤ w2.heap.size) (h4 : n ≤ 30) => l12Search_any hI n [] 0 lo loL vL (.slice (some ⟨gm, om, none⟩) R cm) vd w2 h1 (inMat_below hin hw) h2 h3 (fun k hk => by cases hk) (by simp; omega) (by omega) h4
        have HRW := hide fun (w' : World) (hw' : Below w.heap.size w w') => specRowSums_yes (.slice (some ⟨gm, om, none⟩) R cm) R C f w' (inMat_below hin hw') hI
        have HCW := hide fun (w' : World) (hw' : Below w.heap.size w w') => specColSums_yes (.slice (some ⟨gm, om, none⟩) R cm) R C f w' (inMat_below hin hw') hI
        have HSO := hide (sumsOk_img hI)
        have HAL := hide fun (vr vc : Value) (w' : World) (h1 : RowC w' vr (rowsL R C f)) (h2 : RowC w' vc (rowsL C R (trM f))) => specAllIm_any vr vc _ _ w' h1 h2
        rw [allIm_sums HSO.out, HSO.out] at HAL
        obtain ⟨L, hL⟩ : ∃ L, L = simL R C f := ⟨_, rfl⟩
        have hL2 : allL (rowsL R C f) (rowsL C R (trM f)) = L := hL.symm
        rw [hL2] at HAL
        rw [← hL] at HSE
        obtain ⟨rr, hrr⟩ : ∃ rr, rr = rowsL R C f := ⟨_, rfl⟩
        obtain ⟨kk, hkk⟩ : ∃ kk, kk = rowsL C R (trM f) := ⟨_, rfl⟩
        rw [← hrr] at HRW HAL
        rw [← hkk] at HCW HAL
        rw [← hNe] at HSE
        rw [← hmm] at HHIT
        have HC0 := hide hc0; have HGM := hide hgm
        obtain ⟨en, hen⟩ : ∃ en, en = enB R C f := ⟨_, rfl⟩
        rw [← hen] at HSE HHIT HNONE
        clear h hI hra hmm hin hNe hgm hL hL2 hrr hkk HSO HSOME hen
        go_enter Tryz.func15, Tryz.ntmps15
        go_wp2_with (first | (go_at_call 29; refine HOK.out.mono ?_; rintro e w1 ⟨rfl, rfl⟩) | (go_at_call 23; refine (HRW.out _ (Below.refl _ _)).mono ?_; rintro e w2 ⟨u2, rfl, ho, hb2⟩; have HO2 := hide (rowC_own ho); have B2 := hide hb2; obtain ⟨ra, rc, rfl⟩ := own_slice ho; clear ho hb2) | (go_at_call 24; refine (HCW.out _ B2.out).mono ?_; rintro e w3 ⟨u3, rfl, ho, hb3⟩; have HO3 := hide (rowC_own ho); have HO23 := hide (rowC_below HO2.out hb3); have B3 := hide (B2.out.trans (hb3.mono B2.out.size)); obtain ⟨sa, sc, rfl⟩ := own_slice ho; clear ho hb3) | (go_at_call 22; refine (HAL.out _ _ _ HO23.out HO3.out).mono ?_; rintro e w4 ⟨u4, rfl, ho, hb4⟩; have HO4 := hide ho; have B4 := hide (B3.out.trans (hb4.mono B3.out.size)); obtain ⟨ia, ic, rfl⟩ : ∃ a c, u4 = .slice a L.length c := (by obtain ⟨us, hv, -⟩ := ho; exact own_slice hv); clear ho hb4))
        clear hc0
        go_loopw [6, 7, 8] (fun i _ _ w' => ∃ n : Nat, n ≤ N + 1 ∧ i = .int .i64 n ∧ (∀ t, t < n → srch en N t [] 0 = none) ∧ Below w4.heap.size w4 w') (fun i _ _ _ => N + 1 - (intOf i).toNat)
        case atStart => exact ⟨0, Nat.zero_le _, rfl, fun t h => absurd h (Nat.not_lt_zero t), Below.refl _ _⟩
        case round =>
          obtain ⟨n, hn, rfl, hall, hb⟩ := hrel
          have HA := hide hall; have HB := hide hb
          clear hall hb
          have BW := hide (B4.out.trans (HB.out.mono B4.out.size))
          have hcr := below_cell BW.out HGM.out HC0.out
          by_cases hlt : n < N + 1
          · have hltI : (n : Int) ≤ N := by omega
            have HX : Hid ((wr.alloc (.cells #[] 3)).ownsRow w.heap.size 3 1 (.slice (some ⟨wr.heap.size, 0, none⟩) 0 0) 0 []) := hide (World.ownsRow_made (base := w.heap.size) wr #[] 0 BW.out.size (Nat.zero_le _) rfl)
            have HAL2 := hide ((Below.refl wr.heap.size wr).alloc (Nat.le_refl _) (.cells #[] 3))
            have BX := hide (BW.out.trans (HAL2.out.mono BW.out.size))
            have HS2 := hide (HSE.out n _ _ _ _ _ BX.out (ownImgs_below HO4.out (HB.out.trans (HAL2.out.mono HB.out.size))) HX.out BX.out.size (by omega))
            have HBX := hide (HB.out.trans (HAL2.out.mono HB.out.size))
            obtain ⟨o, hoe⟩ : ∃ o, o = srch en N n [] 0 := ⟨_, rfl⟩
            have HOE := hide hoe
            rw [← hoe] at HS2
            clear hoe
            go_wp2_with fail
            refine HS2.out.mono ?_
            rintro e w5 ⟨u5, rfl, ⟨a5, n5, c5, rfl⟩, ho5, hb5⟩
            have HO5 := hide ho5
            have B5 := hide (BX.out.trans (hb5.mono BX.out.size))
            have B45 := hide (HBX.out.trans (hb5.mono HBX.out.size))
            clear ho5 hb5
            cases o with
            | some o =>
              have hnN : n < N := by
                rcases Nat.lt_or_ge n N with h | h
                · exact h
                · exact absurd (fun t ht => HA.out t (by omega)) HNONE.out
              have HHE := hide (HHIT.out n o hnN HA.out HOE.out.symm)
              go_wp2
              refine bodyPost_ret (results_tmp2 rfl _ _ _) rfl ?_
              unfold LrAns
              rw [HHE.out.1, HHE.out.2]
              exact ⟨_, rfl, HO5.out o rfl, B5.out⟩
            | none =>
              go_wp2
              go_roundw
              case rel => exact ⟨n + 1, by omega, by go_num, fun t h => by
                by_cases e : t = n
                · subst e; exact HOE.out.symm
                · exact HA.out t (by omega), B45.out⟩
              case measure => simp [intOf]; omega
          · exfalso
            exact HNONE.out fun t ht => HA.out t (by omega)
end Go.Proofs.YtjnnoabaepmcnaaGreat
/-
  The exact law on LeastReveal, walked.
-/
namespace Go.Proofs.YtjnnoabaepmcnaaGreat
open Go.RowKit
set_option linter.unusedVariables false
theorem lrL_len (m : List (List Int)) : (lrL m).length ≤ 1000000 := by
  unfold lrL
  split
  · rename_i h
    unfold lrB at h
    simp only [Bool.and_eq_true, decide_eq_true_eq] at h
    obtain ⟨R, C, f, rfl, hI⟩ := ok_img h.1.1
    rw [mkM_len, width_mkM hI.r1]
    cases ho : leastR R C (cellM (mkM R C f)) with
    | none => exact Nat.zero_le _
    | some o =>
      unfold leastR at ho
      obtain ⟨t, ⟨_, hb⟩, ht⟩ := goS_at ho
      rw [srch_start] at ht
      have hl := srchP_len _ _ _ _ ht
      have hRC : R * C ≤ 5 * 5 := Nat.mul_le_mul hI.r2 hI.c2
      rw [show (some o).getD [] = o from rfl, hl]
      omega
  · exact Nat.zero_le _

set_option maxRecDepth 100000 in
set_option maxHeartbeats 4000000 in
theorem lawLeastReveal_gen (a0 : Option Addr) (n0 c0 : Nat) (m0 : List (List Int)) (w : World) (hin0 : InMat w (.slice a0 n0 c0) m0) (r_0 : List Int) (b_1 : Bool) (hres0 : r_0.length ≤ 1000000)
    (hs : ∀ (v0 : Value) (w : World), InMat w v0 m0 → Calls Tryz.prog 15 #[v0] w (fun e w' => ∃ u0, e = .returned (.tuple #[u0, .bool b_1]) ∧ w'.ownsRow w.heap.size 3 1 u0 r_0.length (ints r_0) ∧ Below w.heap.size w w'))
    (hi : ∀ (v0 : Value) (w : World), InMat w v0 m0 → Calls Tryz.prog 16 #[v0] w (fun e w' => ∃ u0, e = .returned (.tuple #[u0, .bool b_1]) ∧ w'.ownsRow w.heap.size 3 1 u0 r_0.length (ints r_0) ∧ Below w.heap.size w w')) :
    Calls Tryz.prog 5 #[.slice a0 n0 c0] w fun e w' => e = .returned (.bool true) ∧ Below w.heap.size w w' := by
  have HI0 := hide hin0
  obtain ⟨a', c', he, hm0, -⟩ := hin0
  cases he
  unfold maxLen at hm0
  have hbb1 : (b_1 != b_1) = false := by cases b_1 <;> rfl
  go_enter Tryz.func5, Tryz.ntmps5
  go_wp2_with fail
  refine (szIntSS_any _ m0 (1048576) _ (by omega) HI0.out).mono ?_
  rintro e w1 ⟨q0, rfl, hq0, hb⟩
  have HB1 := hide (hb)
  have s1 := hb.size
  clear hb
  rcases hq0 with rfl | ⟨hsz0, rfl⟩
  · go_wp2
    go_ret
    exact ⟨rfl, HB1.out⟩
  · skip
    have HZ0 : Hid (m0.length + cellsM m0 ≤ 1048576) := hide (by omega)
    have HS := hide (hs); have HM := hide (hi)
    clear hs hi
    go_wp2_with fail
    refine (toIntSS_any _ m0 _ (by have := HZ0.out; omega) (inMat_below HI0.out HB1.out)).mono ?_
    rintro e w2 ⟨p0, rfl, ho, hb⟩
    have P0_2 := hide (ho)
    have HB2 := hide (HB1.out.trans (hb.mono HB1.out.size))
    have s2 := hb.size
    clear ho hb
    go_wp2_with fail
    refine (HS.out p0 _ (inMat_own P0_2.out)).mono ?_
    rintro e w3 ⟨u0, rfl, ho, hb⟩
    have U0L := hide (fun k e => (ho).lt k e)
    have U0_3 := hide (ho)
    have HB3 := hide (HB2.out.trans (hb.mono HB2.out.size))
    have s3 := hb.size
    clear ho hb
    go_wp2_with fail
    refine (toIntSS_any _ m0 _ (by have := HZ0.out; omega) (inMat_below HI0.out HB3.out)).mono ?_
    rintro e w4 ⟨x0, rfl, ho, hb⟩
    have U0_4 := hide (own_below U0_3.out hb)
    have X0_4 := hide (ho)
    have HB4 := hide (HB3.out.trans (hb.mono HB3.out.size))
    have s4 := hb.size
    clear ho hb
    go_wp2_with fail
    refine (HM.out x0 _ (inMat_own X0_4.out)).mono ?_
    rintro e w5 ⟨g0, rfl, ho, hb⟩
    have U0_5 := hide (own_below U0_4.out hb)
    have X0_5 := hide (ownMat_below X0_4.out hb)
    have G0L := hide (fun k e => (ho).lt k e)
    have G0_5 := hide (ho)
    have HB5 := hide (HB4.out.trans (hb.mono HB4.out.size))
    have s5 := hb.size
    clear ho hb
    go_wp2_with fail
    refine (eqIntS_same g0 u0 r_0 _ (inRow_own G0_5.out) (inRow_own U0_5.out)).mono ?_
    rintro e w6 ⟨rfl, hb⟩
    have U0_6 := hide (own_below U0_5.out hb)
    have X0_6 := hide (ownMat_below X0_5.out hb)
    have G0_6 := hide (own_below G0_5.out hb)
    have HB6 := hide (HB5.out.trans (hb.mono HB5.out.size))
    have s6 := hb.size
    clear hb
    go_wp2_with fail
    refine (toIntSS_any _ m0 _ (by have := HZ0.out; omega) (inMat_below HI0.out HB6.out)).mono ?_
    rintro e w7 ⟨z0, rfl, ho, hb⟩
    have U0_7 := hide (own_below U0_6.out hb)
    have X0_7 := hide (ownMat_below X0_6.out hb)
    have G0_7 := hide (own_below G0_6.out hb)
    have Z0_7 := hide (ho)
    have HB7 := hide (HB6.out.trans (hb.mono HB6.out.size))
    have s7 := hb.size
    clear ho hb
    go_wp2_with fail
    refine (eqIntSS_same x0 z0 m0 _ (inMat_own X0_7.out) (inMat_own Z0_7.out)).mono ?_
    rintro e w8 ⟨rfl, hb⟩
    have U0_8 := hide (own_below U0_7.out hb)
    have X0_8 := hide (ownMat_below X0_7.out hb)
    have G0_8 := hide (own_below G0_7.out hb)
    have HB8 := hide (HB7.out.trans (hb.mono HB7.out.size))
    have s8 := hb.size
    clear hb
    go_wp2_with fail
    refine (markIntSS_any m0 1 _ _ x0 _ (by have := HZ0.out; omega) (by omega) X0_8.out).mono ?_
    rintro e w9 ⟨rfl, -, hwi⟩
    have U0_9 := hide (own_within U0_8.out hwi (fun k e => by have h1 := U0L.out k e; omega))
    have G0_9 := hide (own_within G0_8.out hwi (fun k e => by have h1 := G0L.out k e; omega))
    have HB9 := hide (HB8.out.trans (below_within hwi (by omega) HB8.out.size))
    have s9 := hwi.size
    clear hwi
    go_wp2_with fail
    refine (eqIntS_same g0 u0 r_0 _ (inRow_own G0_9.out) (inRow_own U0_9.out)).mono ?_
    rintro e w10 ⟨rfl, hb⟩
    have U0_10 := hide (own_below U0_9.out hb)
    have G0_10 := hide (own_below G0_9.out hb)
    have HB10 := hide (HB9.out.trans (hb.mono HB9.out.size))
    have s10 := hb.size
    clear hb
    go_wp2_with fail
    refine (markIntS_any r_0.length 1 g0 _ _ _ (by omega) (by omega) G0_10.out).mono ?_
    rintro e w11 ⟨rfl, ho, hg⟩
    have hwi := within_grown (lo := w4.heap.size) (hi := w5.heap.size) hg (fun k e => G0L.out k e)
    have U0_11 := hide (own_within U0_10.out hwi (fun k e => by have h1 := U0L.out k e; omega))
    have HB11 := hide (HB10.out.trans (below_within hwi (by omega) HB10.out.size))
    have s11 := hwi.size
    clear hwi
    have M0_11 := hide ho; have M0L := G0L; clear ho hg
    go_wp2_with fail
    refine (heldIntS_any r_0.length 1 g0 _ (by omega) (by omega) (by have hm := inRow_own (r := markR r_0.length 1) (by rw [markR_len]; exact M0_11.out); exact hm)).mono ?_
    rintro e w12 ⟨rfl, hb⟩
    have U0_12 := hide (own_below U0_11.out hb)
    have M0_12 := hide (own_below M0_11.out hb)
    have HB12 := hide (HB11.out.trans (hb.mono HB11.out.size))
    have s12 := hb.size
    clear hb
    go_wp2_with fail
    refine (toIntSS_any _ m0 _ (by have := HZ0.out; omega) (inMat_below HI0.out HB12.out)).mono ?_
    rintro e w13 ⟨y0, rfl, ho, hb⟩
    have U0_13 := hide (own_below U0_12.out hb)
    have M0_13 := hide (own_below M0_12.out hb)
    have Y0_13 := hide (ho)
    have HB13 := hide (HB12.out.trans (hb.mono HB12.out.size))
    have s13 := hb.size
    clear ho hb
    go_wp2_with fail
    refine (HM.out y0 _ (inMat_own Y0_13.out)).mono ?_
    rintro e w14 ⟨h0, rfl, ho, hb⟩
    have U0_14 := hide (own_below U0_13.out hb)
    have M0_14 := hide (own_below M0_13.out hb)
    have H0L := hide (fun k e => (ho).lt k e)
    have H0_14 := hide (ho)
    have HB14 := hide (HB13.out.trans (hb.mono HB13.out.size))
    have s14 := hb.size
    clear ho hb
    go_wp2_with fail
    refine (eqIntS_same h0 u0 r_0 _ (inRow_own H0_14.out) (inRow_own U0_14.out)).mono ?_
    rintro e w15 ⟨rfl, hb⟩
    have U0_15 := hide (own_below U0_14.out hb)
    have M0_15 := hide (own_below M0_14.out hb)
    have H0_15 := hide (own_below H0_14.out hb)
    have HB15 := hide (HB14.out.trans (hb.mono HB14.out.size))
    have s15 := hb.size
    clear hb
    go_wp2_with fail
    refine (heldIntS_any r_0.length 1 g0 _ (by omega) (by omega) (by have hm := inRow_own (r := markR r_0.length 1) (by rw [markR_len]; exact M0_15.out); exact hm)).mono ?_
    rintro e w16 ⟨rfl, hb⟩
    have M0_16 := hide (own_below M0_15.out hb)
    have HB16 := hide (HB15.out.trans (hb.mono HB15.out.size))
    have s16 := hb.size
    clear hb
    go_wp2
    go_ret
    exact ⟨rfl, HB16.out⟩

theorem lawLeastReveal_walk (a0 : Option Addr) (n0 c0 : Nat) (m0 : List (List Int)) (w : World) (hin0 : InMat w (.slice a0 n0 c0) m0) :
    Calls Tryz.prog 5 #[.slice a0 n0 c0] w fun e w' => e = .returned (.bool true) ∧ Below w.heap.size w w' :=
  lawLeastReveal_gen a0 n0 c0 m0 w hin0 (lrL m0) (lrB m0) (lrL_len m0) (fun v0 w h0 => specLeastReveal_any v0 m0 w h0) (fun v0 w h0 => implLeastReveal_any v0 m0 w h0)
end Go.Proofs.YtjnnoabaepmcnaaGreat
