/-
  Texts of this claim, one behind the other: NearI, HeavS, SpecI, SpecD, NearS, LawsNr.
-/
import Derived.Test.YtldbgkmgmhlbiaaGreatPackK
import Derived.Test.YtldbgkmgmhlbiaaGreatPackN
import Derived.Test.YtldbgkmgmhlbiaaGreatPackH
import Derived.Test.YtldbgkmgmhlbiaaGreatPackI
import Derived.Test.YtldbgkmgmhlbiaaGreatPackF
import Derived.Test.YtldbgkmgmhlbiaaGreatPackC
/-
  NearestImage of the program.
-/
namespace Go.Proofs.YtldbgkmgmhlbiaaGreat
open Go.RowKit Go.Shelf

def nearN (r c : List Int) (p m : List (List Int)) : Nat := cnt (fun i => imgF r.length c.length (cellM m) i != imgF r.length c.length (cellM p) i) 25
def nearF (r c : List Int) (p m : List (List Int)) : Int := -(nearN r c p m : Int)
def nearB (r c : List Int) (p : List (List Int)) : Bool := existsOf r c && okB p && p.length == r.length && widthM p == c.length
def nearP (r c : List Int) (p : List (List Int)) : List (List Int) × Int := ((pickP (nearF r c p) r c (nearB r c p)).1, -(pickP (nearF r c p) r c (nearB r c p)).2)
theorem nearN_le (r c : List Int) (p m : List (List Int)) : nearN r c p m ≤ 25 := cnt_le _ _
theorem nearP_no {r c : List Int} {p : List (List Int)} (h : nearB r c p = false) : nearP r c p = ([], 0) := by unfold nearP pickP; rw [h]; rfl
theorem img_cellM {R C : Nat} {f : Nat → Nat → Int} (h : Img R C f) : Img R C (cellM (mkM R C f)) := ⟨h.r1, h.r2, h.c1, h.c2, fun y x hy hx => by rw [cell_mk R C f hy hx]; exact h.cell y x hy hx⟩
theorem near1_any (r c : List Int) (p : List (List Int)) (vp : Value) (q : Nat) (w : World) (hp : InMat w vp p) (he : existsOf r c = true) (hpm : p = mkM r.length c.length (cellM p)) (hpI : Img r.length c.length (cellM p)) (hq : w.cell? ⟨q, 0, none⟩ = some vp) (hqs : q < w.heap.size) :
    ValFn 40 #[.pointer (some ⟨q, 0, none⟩)] (nearF r c p) (allL r c) w := by
  intro u m W hm hW hu
  obtain ⟨hmk, hI, -⟩ := allL_mk he hm
  have hp2 := inMat_below hp hW
  rw [hpm] at hp2
  have hu2 := hu
  rw [hmk] at hu2
  have HB := hide (implDistanceOf_yes u vp r.length c.length r.length c.length (cellM m) (cellM p) W hu2 hp2 hI hpI)
  rw [if_pos ⟨rfl, rfl⟩] at HB
  have HF : Hid (nearF r c p m = -((cnt (fun i => imgF r.length c.length (cellM m) i != imgF r.length c.length (cellM p) i) 25 : Nat) : Int)) := hide rfl
  rw [HF.out]
  have hle := cnt_le (fun i => imgF r.length c.length (cellM m) i != imgF r.length c.length (cellM p) i) 25
  obtain ⟨n, hn⟩ : ∃ n, n = cnt (fun i => imgF r.length c.length (cellM m) i != imgF r.length c.length (cellM p) i) 25 := ⟨_, rfl⟩
  rw [← hn] at HB hle ⊢
  have hq2 := below_cell hW hqs hq
  obtain ⟨ak, ck, rfl, -, -⟩ := hp
  obtain ⟨au, cu, rfl, -, -⟩ := hu
  generalize p.length = K at *
  generalize m.length = M at *
  clear hq hW hp2 hu2 hI hpI hpm hmk hm he hn HF hqs
  go_enter Tryz.func40, Tryz.ntmps40
  go_wp2_with (go_at_call 12; refine HB.out.mono ?_; rintro e w2 ⟨rfl, b2⟩; have B2 := hide b2; clear b2)
  go_ret
  exact ⟨rfl, B2.out⟩
set_option maxRecDepth 100000 in
set_option maxHeartbeats 2000000 in
theorem implNearest_any (va vb vp : Value) (r c : List Int) (p : List (List Int)) (w : World) (ha : RowC w va r) (hb : RowC w vb c) (hp : InMat w vp p) :
    Calls Tryz.prog 8 #[va, vb, vp] w (PickRes (nearP r c p).1 (nearP r c p).2 (nearB r c p) w) := by
  obtain ⟨w1, hw1⟩ : ∃ w1, w1 = w.alloc (.cells #[vp] 23) := ⟨_, rfl⟩
  have B1 := hide (show Below w.heap.size w w1 by rw [hw1]; exact (Below.refl _ w).alloc (Nat.le_refl _) _)
  have hs1 : w1.heap.size = w.heap.size + 1 := by rw [hw1]; simp
  have hq1 : w1.cell? ⟨w.heap.size, 0, none⟩ = some vp := by rw [hw1]; simp [World.cell?_alloc_new]
  have HE := hide (implExists_any va vb r c w1 (inRow_below ha.1 B1.out) (inRow_below hb.1 B1.out))
  cases he : existsOf r c with
  | false =>
    rw [he] at HE
    have HH : Hid (nearB r c p = false) := hide (by simp only [nearB, he, Bool.false_and])
    have HP : Hid (nearP r c p = ([], 0)) := hide (nearP_no HH.out)
    rw [HH.out, HP.out]
    obtain ⟨-, a1, c1, rfl, -, -⟩ := ha
    obtain ⟨-, a2, c2, rfl, -, -⟩ := hb
    obtain ⟨a3, c3, rfl, -, -⟩ := hp
    generalize r.length = n1 at *
    generalize c.length = n2 at *
    generalize p.length = n3 at *
    clear he HH HP hs1 hq1
    go_enter Tryz.func8, Tryz.ntmps8
    go_wp2_with fail
    rw [← hw1]
    clear hw1
    go_wp2_with (go_at_call 37; refine HE.out.mono ?_; rintro e w2 ⟨rfl, b2⟩; have B2 := hide b2; clear b2)
    refine bodyPost_ret (results_tmp3 rfl _ _ _) rfl ⟨_, rfl, ownMat_nil _ _ _, B1.out.trans (B2.out.mono B1.out.size)⟩
  | true =>
    rw [he] at HE
    obtain ⟨hr5, hc5, -⟩ := sumsOk_yes (existsOf_sums he)
    have HO := hide fun w' (hw : Below w.heap.size w w') => implImageOk_any vp p w' (inMat_below hp hw)
    have HQC := hide fun w' (hw : Below w1.heap.size w1 w') => below_cell hw (by omega) hq1
    cases hok : okB p with
    | false =>
      rw [hok] at HO
      have HH : Hid (nearB r c p = false) := hide (by simp only [nearB, hok, Bool.false_and, Bool.and_false])
      have HP : Hid (nearP r c p = ([], 0)) := hide (nearP_no HH.out)
      rw [HH.out, HP.out]
      obtain ⟨-, a1, c1, rfl, -, -⟩ := ha
      obtain ⟨-, a2, c2, rfl, -, -⟩ := hb
      obtain ⟨a3, c3, rfl, -, -⟩ := hp
      obtain ⟨n1, hn1⟩ : ∃ n, n = r.length := ⟨_, rfl⟩
      obtain ⟨n2, hn2⟩ : ∃ n, n = c.length := ⟨_, rfl⟩
      obtain ⟨n3, hn3⟩ : ∃ n, n = p.length := ⟨_, rfl⟩
      rw [← hn1, ← hn2] at HE
      rw [← hn3] at HO HQC hw1
      rw [← hn1, ← hn2, ← hn3]
      clear he hok HH HP hs1 hq1 hr5 hc5 hn1 hn2 hn3
      go_enter Tryz.func8, Tryz.ntmps8
      go_wp2_with fail
      rw [← hw1]
      clear hw1
      go_wp2_with (first | (go_at_call 37; refine HE.out.mono ?_; rintro e w2 ⟨rfl, b2⟩; have B2 := hide (B1.out.trans (b2.mono B1.out.size)); have hqc := HQC.out _ b2; clear b2) | (go_at_call 38; refine (HO.out _ B2.out).mono ?_; rintro e w3 ⟨rfl, rfl⟩))
      refine bodyPost_ret (results_tmp3 rfl _ _ _) rfl ⟨_, rfl, ownMat_nil _ _ _, B2.out⟩
    | true =>
      rw [hok] at HO
      obtain ⟨R, C, g, hpm, hI⟩ := ok_img hok
      have hR1 := hI.r1; have hC1 := hI.c1; have hR := hI.r2; have hC := hI.c2
      have hp2 := hp
      rw [hpm] at hp2
      obtain ⟨gb, ob, cb, hvp, hgb, hcb⟩ := inMat_img hp2 (by omega) (by omega)
      obtain ⟨g0, o0, c0, hx0, -⟩ := hcb 0 (by omega)
      rw [Nat.add_zero] at hx0
      have HX := hide fun w' (hw : Below w.heap.size w w') => below_cell hw hgb hx0
      have HL : Hid (nearB r c p = (R == r.length && C == c.length)) := hide (by
        unfold nearB
        rw [he, hok, Bool.true_and, Bool.true_and, hpm, mkM_len, width_mkM hR1])
      by_cases h1 : R = r.length
      · by_cases h2 : C = c.length
        · have HH : Hid (nearB r c p = true) := hide (by rw [HL.out, beq_iff_eq.2 h1, beq_iff_eq.2 h2]; rfl)
          have hpI : Img r.length c.length (cellM p) := by rw [hpm, ← h1, ← h2]; exact img_cellM hI
          have hpm2 : p = mkM r.length c.length (cellM p) := by rw [hpm, ← h1, ← h2]; exact (mk_cell R C g).symm
          have HBI := hide fun w' (hw1' : Below w1.heap.size w1 w') => bestImage_any va vb r c 40 #[.pointer (some ⟨w.heap.size, 0, none⟩)] (nearF r c p) w' (enters_of Tryz.func40 (by kernel_rfl) rfl)
            (rowC_below ha (B1.out.trans (hw1'.mono B1.out.size))) (inRow_below hb.1 (B1.out.trans (hw1'.mono B1.out.size))) (existsOf_sums he) (near1_any r c p vp w.heap.size w' (inMat_below hp (B1.out.trans (hw1'.mono B1.out.size))) he hpm2 hpI (HQC.out _ hw1') (by have := hw1'.size; omega)) (fun m hm => by have := nearN_le r c p m; unfold nearF; omega)
          obtain ⟨z, hz, -, hz2, -⟩ := bestF_some (vf := nearF r c p) (allL_ne he)
          have HP : Hid (nearP r c p = (z.1, -z.2)) := hide (by unfold nearP pickP; rw [HH.out, hz]; rfl)
          have hzr : -25 ≤ z.2 ∧ z.2 ≤ 0 := by rw [hz2]; have := nearN_le r c p z.1; unfold nearF; omega
          rw [HH.out, HP.out]
          rw [hz] at HBI
          obtain ⟨-, a1, c1, rfl, -, -⟩ := ha
          obtain ⟨-, a2, c2, rfl, -, -⟩ := hb
          subst hvp
          rw [h1] at hw1 HO HQC
          rw [h2] at HX
          obtain ⟨n1, hn1⟩ : ∃ n, n = r.length := ⟨_, rfl⟩
          obtain ⟨n2, hn2⟩ : ∃ n, n = c.length := ⟨_, rfl⟩
          rw [← hn1] at HE HBI HO HQC hw1
          rw [← hn2] at HE HBI HX
          rw [h1, ← hn1, ← hn2]
          obtain ⟨hr5a, hr5b⟩ := hr5
          have hn10 : 0 < n1 := by omega
          obtain ⟨hz3, hz4⟩ := hzr
          clear he hok HH HP hs1 hq1 hr5a hr5b hc5 hn1 hn2 hz hz2 hpm hpm2 hpI hI hp hp2 hcb hx0 h1 h2 HL hR hC hR1 hC1
          go_enter Tryz.func8, Tryz.ntmps8
          go_wp2_with fail
          rw [← hw1]
          clear hw1
          go_wp2_with (first | (go_at_call 37; refine HE.out.mono ?_; rintro e w2 ⟨rfl, b2⟩; have B2 := hide b2; have hqc := HQC.out _ b2; have hx0 := HX.out _ (B1.out.trans (b2.mono B1.out.size)); clear b2) | (go_at_call 38; refine (HO.out _ (B1.out.trans (B2.out.mono B1.out.size))).mono ?_; rintro e w3 ⟨rfl, rfl⟩) | fail)
          refine (HBI.out _ B2.out).mono ?_
          rintro e w4 ⟨v, gg, rfl, h | ⟨m, h1, h2⟩, b4⟩
          · exact absurd h.1 (by simp)
          · obtain rfl := Option.some.inj h1
            have HB4 := hide ((B1.out.trans (B2.out.mono B1.out.size)).trans (b4.mono (B1.out.trans (B2.out.mono B1.out.size)).size))
            have HM := hide (ownMat_mono h2 (B1.out.trans (B2.out.mono B1.out.size)).size (Nat.le_refl _))
            obtain ⟨av, nv, cv, rfl⟩ : ∃ a n c, v = .slice a n c := by obtain ⟨vs, hv, -⟩ := h2; obtain ⟨a, c, h⟩ := own_slice hv; exact ⟨a, _, c, h⟩
            simp only at hz3 hz4
            clear h1 h2 b4
            go_wp2
            refine bodyPost_ret (results_tmp3 rfl _ _ _) rfl ⟨_, rfl, HM.out, HB4.out⟩
        · have HH : Hid (nearB r c p = false) := hide (by rw [HL.out, beq_eq_false_iff_ne.2 h2, Bool.and_false])
          have HP : Hid (nearP r c p = ([], 0)) := hide (nearP_no HH.out)
          rw [HH.out, HP.out]
          obtain ⟨-, a1, c1, rfl, -, -⟩ := ha
          obtain ⟨-, a2, c2, rfl, -, -⟩ := hb
          subst hvp
          rw [h1] at hw1 HO HQC
          have hne : ((C : Int) != (c.length : Int)) = true := by simp; omega
          obtain ⟨n1, hn1⟩ : ∃ n, n = r.length := ⟨_, rfl⟩
          obtain ⟨n2, hn2⟩ : ∃ n, n = c.length := ⟨_, rfl⟩
          rw [← hn1] at HE HO HQC hw1
          rw [← hn2] at HE hne
          rw [h1, ← hn1, ← hn2]
          have hn10 : 0 < n1 := by omega
          clear he hok HH HP hs1 hq1 hr5 hc5 hn1 hn2 hpm hI hp hp2 hcb hx0 h1 h2 HL
          go_enter Tryz.func8, Tryz.ntmps8
          go_wp2_with fail
          rw [← hw1]
          clear hw1
          go_wp2_with (first | (go_at_call 37; refine HE.out.mono ?_; rintro e w2 ⟨rfl, b2⟩; have B2 := hide (B1.out.trans (b2.mono B1.out.size)); have hqc := HQC.out _ b2; have hx0 := HX.out _ (B1.out.trans (b2.mono B1.out.size)); clear b2) | (go_at_call 38; refine (HO.out _ B2.out).mono ?_; rintro e w3 ⟨rfl, rfl⟩))
          refine bodyPost_ret (results_tmp3 rfl _ _ _) rfl ⟨_, rfl, ownMat_nil _ _ _, B2.out⟩
      · have HH : Hid (nearB r c p = false) := hide (by rw [HL.out, beq_eq_false_iff_ne.2 h1, Bool.false_and])
        have HP : Hid (nearP r c p = ([], 0)) := hide (nearP_no HH.out)
        rw [HH.out, HP.out]
        obtain ⟨-, a1, c1, rfl, -, -⟩ := ha
        obtain ⟨-, a2, c2, rfl, -, -⟩ := hb
        subst hvp
        have hne : ((R : Int) != (r.length : Int)) = true := by simp; omega
        obtain ⟨n1, hn1⟩ : ∃ n, n = r.length := ⟨_, rfl⟩
        obtain ⟨n2, hn2⟩ : ∃ n, n = c.length := ⟨_, rfl⟩
        rw [← hn1, ← hn2] at HE
        rw [← hn1] at hne
        rw [← hn1, ← hn2]
        clear he hok HH HP hs1 hq1 hr5 hc5 hn1 hn2 hpm hI hp hp2 hcb hx0 h1 HL HX
        go_enter Tryz.func8, Tryz.ntmps8
        go_wp2_with fail
        rw [← hw1]
        clear hw1
        go_wp2_with (first | (go_at_call 37; refine HE.out.mono ?_; rintro e w2 ⟨rfl, b2⟩; have B2 := hide (B1.out.trans (b2.mono B1.out.size)); have hqc := HQC.out _ b2; clear b2) | (go_at_call 38; refine (HO.out _ B2.out).mono ?_; rintro e w3 ⟨rfl, rfl⟩))
        refine bodyPost_ret (results_tmp3 rfl _ _ _) rfl ⟨_, rfl, ownMat_nil _ _ _, B2.out⟩
end Go.Proofs.YtldbgkmgmhlbiaaGreat
/-
  HeaviestImage of the model.
-/
namespace Go.Proofs.YtldbgkmgmhlbiaaGreat
open Go.RowKit Go.Shelf

/-- An image of the list, as it lies. -/
theorem ownImgs_at {w : World} {lo g c : Nat} {us : List Value} {ms : List (List (List Int))} (hv : w.ownsRow lo 23 1 (.slice (some ⟨g, 0, none⟩) ms.length c) ms.length us) (hm : ∀ i, (h : i < ms.length) → OwnM2 w lo (us.getD i undef) ms[i]) {i : Nat} (h : i < ms.length) :
    ∃ a n' c', us.getD i undef = .slice a n' c' ∧ w.cell? ⟨g, i, none⟩ = some (.slice a n' c') ∧ InMat w (.slice a n' c') ms[i] := by
  have hx := cell_held hv h
  obtain ⟨hi, h1, h2⟩ := hm i h
  obtain ⟨a, c', he⟩ : ∃ a c', us.getD i undef = .slice a ms[i].length c' := by obtain ⟨vs, hv2, -⟩ := h2; obtain ⟨a, c, h⟩ := own_slice hv2; exact ⟨a, c, h⟩
  rw [he] at hx h2
  exact ⟨a, _, c', he, hx, inMat_own h2⟩
end Go.Proofs.YtldbgkmgmhlbiaaGreat
/-
  The model's functions on images.
-/
namespace Go.Proofs.YtldbgkmgmhlbiaaGreat
open Go.RowKit

def inM (m : List (List Int)) (y x : Int) : Bool := okB m && decide (0 ≤ y ∧ y < m.length) && decide (0 ≤ x ∧ x < widthM m)
set_option maxHeartbeats 400000 in
theorem l02In_no (v : Value) (m : List (List Int)) (y x : Int) (w : World) (hin : InMat w v m) (h : okB m = false) :
    Calls Tryz.prog 93 #[v, .int .i64 y, .int .i64 x] w fun e w' => e = .returned (.bool false) ∧ w = w' := by
  have HI := hide hin; have H := hide h
  clear hin h
  go_enter Tryz.func93, Tryz.ntmps93
  go_wp2_with (with_reducible refine (specImageOk_any v m _ HI.out).mono ?_; rw [H.out]; rintro e w' ⟨rfl, rfl⟩)
  go_ret
  exact ⟨rfl, rfl⟩
set_option maxHeartbeats 400000 in
theorem l02In_img (v : Value) (R C : Nat) (f : Nat → Nat → Int) (y x : Int) (w : World) (hin : InMat w v (mkM R C f)) (hI : Img R C f) (b : Bool) (hb : b = true ↔ (0 ≤ y ∧ y < R ∧ 0 ≤ x ∧ x < C)) :
    Calls Tryz.prog 93 #[v, .int .i64 y, .int .i64 x] w fun e w' => e = .returned (.bool b) ∧ w = w' := by
  have HI := hide hin; have H := hide (img_ok hI)
  have hR := hI.r2; have hR1 := hI.r1; have hC := hI.c2; have hC1 := hI.c1
  obtain ⟨g, o, c, rfl, hg, hcell⟩ := inMat_img hin (by omega) (by omega)
  obtain ⟨g0, o0, c0, hx0, -⟩ := hcell 0 (by omega)
  rw [Nat.add_zero] at hx0
  have HB := hide hb
  clear hin hI hcell hb
  by_cases h1 : 0 ≤ y ∧ y ≤ (R : Int) - 1
  · have H1 := hide (decide_eq_true h1)
    by_cases h2 : 0 ≤ x ∧ x ≤ (C : Int) - 1
    · have H2 := hide (decide_eq_true h2)
      have HT : Hid (b = true) := hide (HB.out.2 (by omega))
      clear h1 h2
      go_enter Tryz.func93, Tryz.ntmps93
      go_wp2_with (first | (with_reducible refine (specImageOk_any _ _ _ HI.out).mono ?_; rw [H.out]; rintro e w' ⟨rfl, rfl⟩) | (with_reducible refine (l01In_any y 0 ((R : Int) - 1) _).mono ?_; rw [H1.out]; rintro e w' ⟨rfl, rfl⟩) | (with_reducible refine (l01In_any x 0 ((C : Int) - 1) _).mono ?_; rw [H2.out]; rintro e w' ⟨rfl, rfl⟩))
      go_ret
      exact ⟨ret_bool HT.out.symm, rfl⟩
    · have H2 := hide (decide_eq_false h2)
      have HT : Hid (b = false) := hide (by rw [Bool.eq_false_iff]; intro e; have := HB.out.1 e; omega)
      clear h1 h2
      go_enter Tryz.func93, Tryz.ntmps93
      go_wp2_with (first | (with_reducible refine (specImageOk_any _ _ _ HI.out).mono ?_; rw [H.out]; rintro e w' ⟨rfl, rfl⟩) | (with_reducible refine (l01In_any y 0 ((R : Int) - 1) _).mono ?_; rw [H1.out]; rintro e w' ⟨rfl, rfl⟩) | (with_reducible refine (l01In_any x 0 ((C : Int) - 1) _).mono ?_; rw [H2.out]; rintro e w' ⟨rfl, rfl⟩))
      go_ret
      exact ⟨ret_bool HT.out.symm, rfl⟩
  · have H1 := hide (decide_eq_false h1)
    have HT : Hid (b = false) := hide (by rw [Bool.eq_false_iff]; intro e; have := HB.out.1 e; omega)
    clear h1
    go_enter Tryz.func93, Tryz.ntmps93
    go_wp2_with (first | (with_reducible refine (specImageOk_any _ _ _ HI.out).mono ?_; rw [H.out]; rintro e w' ⟨rfl, rfl⟩) | (with_reducible refine (l01In_any y 0 ((R : Int) - 1) _).mono ?_; rw [H1.out]; rintro e w' ⟨rfl, rfl⟩))
    go_ret
    exact ⟨ret_bool HT.out.symm, rfl⟩

theorem cnt_row {R C : Nat} {f : Nat → Nat → Int} (p : Nat → Bool) (hp : ∀ i, imgF R C f i = -1 → p i = false) (y : Nat) (hC : C ≤ 5) : cnt p (5 * (y + 1)) = cnt p (5 * y + C) :=
  cnt_skip (by omega) fun i h1 h2 => hp i (by rw [imgF, if_neg (by omega)])
theorem cnt_end {R C : Nat} {f : Nat → Nat → Int} (p : Nat → Bool) (hp : ∀ i, imgF R C f i = -1 → p i = false) (hR : R ≤ 5) : cnt p 25 = cnt p (5 * R) :=
  cnt_skip (by omega) fun i h1 h2 => hp i (by rw [imgF, if_neg (by omega)])
end Go.Proofs.YtldbgkmgmhlbiaaGreat
/-
  DistanceOf of the model.
-/
namespace Go.Proofs.YtldbgkmgmhlbiaaGreat
open Go.RowKit

theorem ok_quiet (v : Value) (m : List (List Int)) (w : World) (n : Nat) (b : Bool) (hin : InMat w v m) (hb : okB m = b) :
    Calls Tryz.prog 61 #[v] (w.drewN n) fun e w'' => e = .returned (.bool b) ∧ ∃ k, w'' = w.drewN k := by
  refine Calls.quiet_of_same ((specImageOk_any v m (w.drewN n) hin).mono ?_)
  rintro e w' ⟨rfl, rfl⟩
  exact ⟨by rw [hb], rfl⟩

set_option maxHeartbeats 1000000 in
theorem specDistanceOf_no (v u : Value) (m l : List (List Int)) (w : World) (hin : InMat w v m) (hin2 : InMat w u l) (h : (okB m && okB l) = false) :
    Calls Tryz.prog 64 #[v, u] w fun e w' => e = .returned (.int .i64 (-1)) ∧ Below w.heap.size w w' := by
  have HI := hide hin; have HJ := hide hin2
  clear hin hin2
  cases h1 : okB m with
  | false =>
    have H1 := hide h1
    clear h h1
    go_enter Tryz.func64, Tryz.ntmps64
    go_wp2
    go_quiet ((go_at_call 61; exact ok_quiet _ m _ _ false HI.out H1.out))
    go_wp2
    go_ret
    exact ⟨rfl, below_draws (Below.refl _ _) _⟩
  | true =>
    have h2 : okB l = false := by rw [h1] at h; simpa using h
    have H1 := hide h1; have H2 := hide h2
    clear h h1 h2
    go_enter Tryz.func64, Tryz.ntmps64
    go_wp2
    go_quiet ((go_at_call 61; (first | with_reducible exact ok_quiet v m _ _ true HI.out H1.out | with_reducible exact ok_quiet u l _ _ false HJ.out H2.out)))
    go_wp2
    go_ret
    exact ⟨rfl, below_draws (Below.refl _ _) _⟩

set_option maxHeartbeats 1000000 in
theorem specDistanceOf_rows (v u : Value) (R C R' C' : Nat) (f g : Nat → Nat → Int) (w : World) (hin : InMat w v (mkM R C f)) (hin2 : InMat w u (mkM R' C' g)) (hI : Img R C f) (hI' : Img R' C' g) (hne : R ≠ R') :
    Calls Tryz.prog 64 #[v, u] w fun e w' => e = .returned (.int .i64 (-1)) ∧ Below w.heap.size w w' := by
  have HI := hide hin; have HJ := hide hin2; have H1 := hide (img_ok hI); have H2 := hide (img_ok hI')
  have hR1 := hI.r1; have hC1 := hI.c1; have hR := hI.r2; have hC := hI.c2
  have hR1' := hI'.r1; have hC1' := hI'.c1; have hR' := hI'.r2; have hC' := hI'.c2
  obtain ⟨ga, oa, ca, rfl, hga, -⟩ := inMat_img hin (by omega) (by omega)
  obtain ⟨gb, ob, cb, rfl, hgb, -⟩ := inMat_img hin2 (by omega) (by omega)
  have q1 : ((R : Int) == (R' : Int)) = false := by simp; omega
  have q2 : ((R : Int) != (R' : Int)) = true := by simp; omega
  clear hin hin2 hI hI' hne
  go_enter Tryz.func64, Tryz.ntmps64
  go_wp2
  go_quiet ((go_at_call 61; (first | with_reducible exact ok_quiet (.slice (some ⟨ga, oa, none⟩) R ca) _ _ _ true HI.out H1.out | with_reducible exact ok_quiet (.slice (some ⟨gb, ob, none⟩) R' cb) _ _ _ true HJ.out H2.out)))
  go_wp2
  go_ret
  exact ⟨rfl, below_draws (Below.refl _ _) _⟩
set_option maxHeartbeats 1000000 in
theorem specDistanceOf_cols (v u : Value) (R C C' : Nat) (f g : Nat → Nat → Int) (w : World) (hin : InMat w v (mkM R C f)) (hin2 : InMat w u (mkM R C' g)) (hI : Img R C f) (hI' : Img R C' g) (hne : C ≠ C') :
    Calls Tryz.prog 64 #[v, u] w fun e w' => e = .returned (.int .i64 (-1)) ∧ Below w.heap.size w w' := by
  have HI := hide hin; have HJ := hide hin2; have H1 := hide (img_ok hI); have H2 := hide (img_ok hI')
  have hR1 := hI.r1; have hC1 := hI.c1; have hR := hI.r2; have hC := hI.c2
  have hC1' := hI'.c1; have hC' := hI'.c2
  obtain ⟨ga, oa, ca, rfl, hga, hca⟩ := inMat_img hin (by omega) (by omega)
  obtain ⟨gb, ob, cb, rfl, hgb, hcb⟩ := inMat_img hin2 (by omega) (by omega)
  obtain ⟨g0, o0, c0, hx0, -⟩ := hca 0 (by omega)
  obtain ⟨g1, o1, c1, hx1, -⟩ := hcb 0 (by omega)
  rw [Nat.add_zero] at hx0 hx1
  have q1 : ((C : Int) == (C' : Int)) = false := by simp; omega
  have q2 : ((C : Int) != (C' : Int)) = true := by simp; omega
  clear hin hin2 hI hI' hne hca hcb
  go_enter Tryz.func64, Tryz.ntmps64
  go_wp2
  go_quiet ((go_at_call 61; (first | with_reducible exact ok_quiet (.slice (some ⟨ga, oa, none⟩) R ca) _ _ _ true HI.out H1.out | with_reducible exact ok_quiet (.slice (some ⟨gb, ob, none⟩) R cb) _ _ _ true HJ.out H2.out)))
  go_wp2
  go_ret
  exact ⟨rfl, below_draws (Below.refl _ _) _⟩
set_option maxRecDepth 100000 in
set_option maxHeartbeats 1000000 in
theorem specDistanceOf_same (v u : Value) (R C : Nat) (f g : Nat → Nat → Int) (w : World) (hin : InMat w v (mkM R C f)) (hin2 : InMat w u (mkM R C g)) (hI : Img R C f) (hI' : Img R C g) :
    Calls Tryz.prog 64 #[v, u] w fun e w' => e = .returned (.int .i64 (cnt (fun i => imgF R C f i != imgF R C g i) 25 : Nat)) ∧ Below w.heap.size w w' := by
  have HI := hide hin; have HJ := hide hin2; have H1 := hide (img_ok hI); have H2 := hide (img_ok hI')
  have hR1 := hI.r1; have hC1 := hI.c1; have hR := hI.r2; have hC := hI.c2
  obtain ⟨ga, oa, ca, rfl, hga, hca⟩ := inMat_img hin (by omega) (by omega)
  obtain ⟨gb, ob, cb, rfl, hgb, hcb⟩ := inMat_img hin2 (by omega) (by omega)
  obtain ⟨g0, o0, c0, hx0, -⟩ := hca 0 (by omega)
  obtain ⟨g1, o1, c1, hx1, -⟩ := hcb 0 (by omega)
  rw [Nat.add_zero] at hx0 hx1
  have HA := hide hca; have HB := hide hcb
  obtain ⟨p, hp⟩ : ∃ p : Nat → Bool, p = fun i => imgF R C f i != imgF R C g i := ⟨_, rfl⟩
  have HP : Hid (∀ i, p i = (imgF R C f i != imgF R C g i)) := hide fun i => by rw [hp]
  have HN : Hid (∀ i, imgF R C f i = -1 → p i = false) := hide fun i e => by
    have e2 : imgF R C g i = -1 := (imgF_none hI' i).2 ((imgF_none hI i).1 e)
    rw [HP.out, e, e2]; rfl
  rw [← hp]
  clear hin hin2 hI hI' hca hcb hp
  go_enter Tryz.func64, Tryz.ntmps64
  go_wp2
  go_quiet ((go_at_call 61; (first | with_reducible exact ok_quiet (.slice (some ⟨ga, oa, none⟩) R ca) _ _ _ true HI.out H1.out | with_reducible exact ok_quiet (.slice (some ⟨gb, ob, none⟩) R cb) _ _ _ true HJ.out H2.out)))
  clear hx0 hx1
  go_wp2
  go_loopw [5, 38] (fun n i w' => ∃ y : Nat, y ≤ R ∧ i = .int .i64 y ∧ n = .int .i64 (cnt p (5 * y)) ∧ Below w.heap.size w w') (fun _ i _ => R - (intOf i).toNat)
  case atStart => exact ⟨0, by omega, rfl, rfl, below_draws (Below.refl _ _) _⟩
  case round =>
    obtain ⟨y, hy, rfl, rfl, hb⟩ := hrel
    have HBB := hide hb
    clear hb
    by_cases hlt : y < R
    · have hyI : (y : Int) < R := by omega
      obtain ⟨g', o', c', hx, hg', hcc⟩ := HA.out y hlt
      have hx := below_cell HBB.out hga hx
      have HCC := hide hcc
      clear hcc
      obtain ⟨wo, rfl⟩ : ∃ wo : World, wo = wr := ⟨_, rfl⟩
      go_wp2
      go_loopw [5, 45] (fun n i w' => ∃ x : Nat, x ≤ C ∧ i = .int .i64 x ∧ n = .int .i64 (cnt p (5 * y + x)) ∧ Below w.heap.size w w') (fun _ i _ => C - (intOf i).toNat)
      case atStart => exact ⟨0, by omega, rfl, rfl, HBB.out⟩
      case round =>
        clear HBB hx
        obtain ⟨x, hxx, rfl, rfl, hb⟩ := hrel
        have HBB := hide hb
        clear hb
        have hle := cnt_le p (5 * y + x)
        by_cases hlx : x < C
        · have hxI : (x : Int) < C := by omega
          have hz := below_cell HBB.out hg' (HCC.out x hlx)
          obtain ⟨g2, o2, c2, hx2, hg2, hc2⟩ := HB.out y hlt
          have hx2 := below_cell HBB.out hgb hx2
          have hz2 := below_cell HBB.out hg2 (hc2 x hlx)
          have HV : Hid (p (5 * y + x) = (f y x != g y x)) := hide (by rw [HP.out, imgF_at _ _ _ _ _ (by omega), imgF_at _ _ _ _ _ (by omega), if_pos ⟨hlt, hlx⟩, if_pos ⟨hlt, hlx⟩])
          clear hc2
          obtain ⟨s, hs⟩ : ∃ s, s = f y x := ⟨_, rfl⟩
          obtain ⟨t, ht⟩ : ∃ t, t = g y x := ⟨_, rfl⟩
          rw [← hs, ← ht] at HV
          rw [← hs] at hz
          rw [← ht] at hz2
          clear hs ht
          by_cases e : s = t
          · subst e
            have HS := hide (cnt_no (p := p) (k := 5 * y + x) (by rw [HV.out]; simp))
            go_wp2
            go_roundw
            case rel => exact ⟨x + 1, by omega, by go_num, by rw [← Nat.add_assoc, HS.out], HBB.out⟩
            case measure => simp [intOf]; omega
          · have hne2 : (s != t) = true := by simpa using e
            have hne1 : (s == t) = false := by simpa using e
            have HS := hide (cnt_yes (p := p) (k := 5 * y + x) (by rw [HV.out]; exact hne2))
            clear e
            go_wp2
            go_roundw
            case rel => exact ⟨x + 1, by omega, by go_num, by rw [← Nat.add_assoc, HS.out]; go_num, HBB.out⟩
            case measure => simp [intOf]; omega
        · obtain rfl : x = C := by omega
          have HS := hide (cnt_row p HN.out y hC)
          go_wp2
          go_roundw
          case rel => exact ⟨y + 1, by omega, by go_num, by rw [HS.out], HBB.out⟩
          case measure => simp [intOf]; omega
    · obtain rfl : y = R := by omega
      have HS := hide (cnt_end p HN.out hR)
      go_wp2
      go_ret
      exact ⟨ret_int (by rw [HS.out]), HBB.out⟩
theorem specDistanceOf_yes (v u : Value) (R C R' C' : Nat) (f g : Nat → Nat → Int) (w : World) (hin : InMat w v (mkM R C f)) (hin2 : InMat w u (mkM R' C' g)) (h : Img R C f) (h' : Img R' C' g) :
    Calls Tryz.prog 64 #[v, u] w fun e w' => e = .returned (.int .i64 (if R = R' ∧ C = C' then (cnt (fun i => imgF R C f i != imgF R' C' g i) 25 : Nat) else -1)) ∧ Below w.heap.size w w' := by
  by_cases hR : R = R'
  · subst hR
    by_cases hC : C = C'
    · subst hC
      rw [if_pos ⟨rfl, rfl⟩]
      exact specDistanceOf_same v u R C f g w hin hin2 h h'
    · rw [if_neg fun e => hC e.2]
      exact specDistanceOf_cols v u R C C' f g w hin hin2 h h' hC
  · rw [if_neg fun e => hR e.1]
    exact specDistanceOf_rows v u R C R' C' f g w hin hin2 h h' hR
end Go.Proofs.YtldbgkmgmhlbiaaGreat
/-
  NearestImage of the model.
-/
namespace Go.Proofs.YtldbgkmgmhlbiaaGreat
open Go.RowKit Go.Shelf

def fitB (r c : List Int) (p : List (List Int)) : Bool := existsOf r c && p.length == r.length && widthM p == c.length
set_option maxHeartbeats 1000000 in
theorem l09Fit_any (va vb vp : Value) (r c : List Int) (R C : Nat) (g : Nat → Nat → Int) (w : World) (ha : InRow w va r) (hb : InRow w vb c) (hp : InMat w vp (mkM R C g)) (hR : 0 < R) (hC : 0 < C) :
    Calls Tryz.prog 62 #[va, vb, vp] w fun e w' => e = .returned (.bool (fitB r c (mkM R C g))) ∧ Below w.heap.size w w' := by
  have HE := hide (specExists_any va vb r c w ha hb)
  obtain ⟨gb, ob, cb, rfl, hgb, hcb⟩ := inMat_img hp hR hC
  obtain ⟨g0, o0, c0, hx0, -⟩ := hcb 0 hR
  rw [Nat.add_zero] at hx0
  have HX := hide fun w' (hw : Below w.heap.size w w') => below_cell hw hgb hx0
  have HF : Hid (fitB r c (mkM R C g) = (existsOf r c && R == r.length && C == c.length)) := hide (by rw [fitB, mkM_len, width_mkM hR])
  rw [HF.out]
  obtain ⟨b, hbb⟩ : ∃ b, b = existsOf r c := ⟨_, rfl⟩
  rw [← hbb] at HE ⊢
  obtain ⟨a1, c1, rfl, -, -⟩ := ha
  obtain ⟨a2, c2, rfl, -, -⟩ := hb
  obtain ⟨n1, hn1⟩ : ∃ n, n = r.length := ⟨_, rfl⟩
  obtain ⟨n2, hn2⟩ : ∃ n, n = c.length := ⟨_, rfl⟩
  rw [← hn1, ← hn2] at HE ⊢
  clear hbb hn1 hn2 hp hcb hx0 HF
  cases b with
  | false =>
    go_enter Tryz.func62, Tryz.ntmps62
    go_wp2_with (go_at_call 89; refine HE.out.mono ?_; rintro e w2 ⟨rfl, b2⟩; have B2 := hide b2; have hx0 := HX.out _ b2; clear b2)
    go_ret
    exact ⟨rfl, B2.out⟩
  | true =>
    by_cases h1 : R = n1
    · subst h1
      rw [show (R == R) = true from beq_self_eq_true R]
      by_cases h2 : C = n2
      · subst h2
        rw [show (C == C) = true from beq_self_eq_true C]
        go_enter Tryz.func62, Tryz.ntmps62
        go_wp2_with (go_at_call 89; refine HE.out.mono ?_; rintro e w2 ⟨rfl, b2⟩; have B2 := hide b2; have hx0 := HX.out _ b2; clear b2)
        go_ret
        exact ⟨rfl, B2.out⟩
      · have hne : ((C : Int) == (n2 : Int)) = false := by simp; omega
        rw [show (C == n2) = false from beq_eq_false_iff_ne.2 h2]
        clear h2
        go_enter Tryz.func62, Tryz.ntmps62
        go_wp2_with (go_at_call 89; refine HE.out.mono ?_; rintro e w2 ⟨rfl, b2⟩; have B2 := hide b2; have hx0 := HX.out _ b2; clear b2)
        go_ret
        exact ⟨rfl, B2.out⟩
    · have hne : ((R : Int) == (n1 : Int)) = false := by simp; omega
      rw [show (R == n1) = false from beq_eq_false_iff_ne.2 h1]
      clear h1
      go_enter Tryz.func62, Tryz.ntmps62
      go_wp2_with (go_at_call 89; refine HE.out.mono ?_; rintro e w2 ⟨rfl, b2⟩; have B2 := hide b2; have hx0 := HX.out _ b2; clear b2)
      go_ret
      exact ⟨rfl, B2.out⟩
theorem nearB_fit {r c : List Int} {p : List (List Int)} : nearB r c p = (okB p && fitB r c p) := by
  unfold nearB fitB
  cases existsOf r c <;> cases okB p <;> simp
set_option maxRecDepth 100000 in
set_option maxHeartbeats 2000000 in
theorem specNearest_any (va vb vp : Value) (r c : List Int) (p : List (List Int)) (w : World) (ha : RowC w va r) (hb : RowC w vb c) (hp : InMat w vp p) :
    Calls Tryz.prog 21 #[va, vb, vp] w (PickRes (nearP r c p).1 (nearP r c p).2 (nearB r c p) w) := by
  have HO := hide (specImageOk_any vp p w hp)
  cases hok : okB p with
  | false =>
    rw [hok] at HO
    have HH : Hid (nearB r c p = false) := hide (by rw [nearB_fit, hok, Bool.false_and])
    have HP : Hid (nearP r c p = ([], 0)) := hide (nearP_no HH.out)
    rw [HH.out, HP.out]
    obtain ⟨-, a1, c1, rfl, -, -⟩ := ha
    obtain ⟨-, a2, c2, rfl, -, -⟩ := hb
    obtain ⟨a3, c3, rfl, -, -⟩ := hp
    generalize r.length = n1 at *
    generalize c.length = n2 at *
    generalize p.length = n3 at *
    clear hok HH HP
    go_enter Tryz.func21, Tryz.ntmps21
    go_wp2_with (go_at_call 61; refine HO.out.mono ?_; rintro e w2 ⟨rfl, rfl⟩)
    refine bodyPost_ret (results_tmp3 rfl _ _ _) rfl ⟨_, rfl, ownMat_nil _ _ _, Below.refl _ _⟩
  | true =>
    rw [hok] at HO
    obtain ⟨R, C, g, hpm, hI⟩ := ok_img hok
    have hp2 := hp
    rw [hpm] at hp2
    have HFT := hide (l09Fit_any va vb vp r c R C g w ha.1 hb.1 hp2 hI.r1 hI.c1)
    rw [← hpm] at HFT
    cases hf : fitB r c p with
    | false =>
      rw [hf] at HFT
      have HH : Hid (nearB r c p = false) := hide (by rw [nearB_fit, hf, Bool.and_false])
      have HP : Hid (nearP r c p = ([], 0)) := hide (nearP_no HH.out)
      rw [HH.out, HP.out]
      obtain ⟨-, a1, c1, rfl, -, -⟩ := ha
      obtain ⟨-, a2, c2, rfl, -, -⟩ := hb
      obtain ⟨a3, c3, rfl, -, -⟩ := hp
      generalize r.length = n1 at *
      generalize c.length = n2 at *
      generalize p.length = n3 at *
      clear hok HH HP hpm hp2 hI hf
      go_enter Tryz.func21, Tryz.ntmps21
      go_wp2_with (first | (go_at_call 61; refine HO.out.mono ?_; rintro e w2 ⟨rfl, rfl⟩) | (go_at_call 62; refine HFT.out.mono ?_; rintro e w2 ⟨rfl, b2⟩; have B2 := hide b2; clear b2))
      refine bodyPost_ret (results_tmp3 rfl _ _ _) rfl ⟨_, rfl, ownMat_nil _ _ _, B2.out⟩
    | true =>
      rw [hf] at HFT
      have HH : Hid (nearB r c p = true) := hide (by rw [nearB_fit, hok, hf]; rfl)
      have hf' := hf
      unfold fitB at hf'
      rw [Bool.and_eq_true, Bool.and_eq_true, beq_iff_eq, beq_iff_eq] at hf'
      obtain ⟨⟨he, h1⟩, h2⟩ := hf'
      rw [hpm, mkM_len] at h1
      rw [hpm, width_mkM hI.r1] at h2
      have hpI : Img r.length c.length (cellM p) := by rw [hpm, ← h1, ← h2]; exact img_cellM hI
      have hpm2 : p = mkM r.length c.length (cellM p) := by rw [hpm, ← h1, ← h2]; exact (mk_cell R C g).symm
      have HALL := hide fun (w' : World) (hw : Below w.heap.size w w') => specAll_start r c va vb w w' ha hb.1 he hw
      obtain ⟨z, hz, -, hz2, -⟩ := bestF_some (vf := nearF r c p) (allL_ne he)
      have HP : Hid (nearP r c p = (z.1, -z.2)) := hide (by unfold nearP pickP; rw [HH.out, hz]; rfl)
      rw [HH.out, HP.out]
      have HLEN := hide (show (allL r c).length ≤ 100000 by
        have := allIm_len r c
        rw [allIm_sums (existsOf_sums he)] at this; exact this)
      have HPOS := hide (show 0 < (allL r c).length from List.length_pos_iff.2 (allL_ne he))
      have HBW := hide fun (u : Value) (m : List (List Int)) (W : World) (hm : m ∈ allL r c) (hW : Below w.heap.size w W) (hu : InMat W u m) => (show Calls Tryz.prog 64 #[u, vp] W (fun e w' => e = .returned (.int .i64 (nearN r c p m : Nat)) ∧ Below W.heap.size W w') by
        obtain ⟨hmk, hI2, -⟩ := allL_mk he hm
        have hk2 := inMat_below hp hW
        rw [hpm2] at hk2
        rw [hmk] at hu
        have := specDistanceOf_yes u vp r.length c.length r.length c.length (cellM m) (cellM p) W hu hk2 hI2 hpI
        rw [if_pos ⟨rfl, rfl⟩] at this
        exact this)
      have HVF := hide fun (m : List (List Int)) => nearN_le r c p m
      have HNF := hide fun (m : List (List Int)) => (show nearF r c p m = -(nearN r c p m : Int) from rfl)
      obtain ⟨L, hL⟩ : ∃ L, L = allL r c := ⟨_, rfl⟩
      rw [← hL] at HALL hz HLEN HPOS HBW
      obtain ⟨vf, hvf⟩ : ∃ vf, vf = nearF r c p := ⟨_, rfl⟩
      obtain ⟨nf, hnf⟩ : ∃ nf, nf = nearN r c p := ⟨_, rfl⟩
      rw [← hvf] at hz HNF
      rw [← hnf] at HVF HNF HBW
      have HPP := hide hz
      obtain ⟨-, a1, c1, rfl, -, -⟩ := ha
      obtain ⟨-, a2, c2, rfl, -, -⟩ := hb
      obtain ⟨a3, c3, rfl, -, -⟩ := hp
      clear h1 h2 hz2 hpI hpm2
      generalize r.length = n1 at *
      generalize c.length = n2 at *
      generalize p.length = n3 at *
      obtain ⟨N, hN⟩ : ∃ N, N = L.length := ⟨_, rfl⟩
      have HN := hide hN
      clear he hok hf HH HP hz hL hvf hnf hN hpm hp2 hI
      go_enter Tryz.func21, Tryz.ntmps21
      go_wp2_with (first | (go_at_call 61; refine HO.out.mono ?_; rintro e w2 ⟨rfl, rfl⟩) | (go_at_call 62; refine HFT.out.mono ?_; rintro e w2 ⟨rfl, b2⟩; have B2 := hide b2; clear b2) | fail)
      refine (HALL.out _ (B2.out.alloc B2.out.size _)).mono ?_
      rintro e w4 ⟨u, rfl, ⟨us, hv, hm⟩, b4⟩
      obtain ⟨gg, cap, rfl, -, -, -, -, -, -⟩ := own_some hv HPOS.out
      have hgl := (hv.lt gg rfl).2
      have HAT := hide fun (i : Nat) (h : i < L.length) => ownImgs_at hv hm h
      have HM := hide hm
      have B4 := hide b4
      have hln : L.length ≤ 100000 := HLEN.out
      have hN0 : 0 < N := by have := HPOS.out; have := HN.out; omega
      rw [← HN.out] at hln ⊢
      clear hv hm b4
      go_wp2
      go_loopw [9, 10, 29] (fun v n i w' => ∃ j : Nat, j ≤ N ∧ i = .int .i64 j ∧ (∃ a n' c' z, v = .slice a n' c' ∧ n = .int .i64 z ∧ ((j = 0 ∧ z = -1) ∨ (∃ t : Nat, t ≤ 25 ∧ z = t ∧ PickSt us L vf j (.slice a n' c') (-(t : Int))))) ∧ Below w4.heap.size w4 w') (fun _ _ i _ => N - (intOf i).toNat)
      case atStart => exact ⟨0, Nat.zero_le _, rfl, ⟨_, _, _, -1, rfl, rfl, .inl ⟨rfl, rfl⟩⟩, Below.refl _ _⟩
      case round =>
        obtain ⟨j, hj, rfl, ⟨a, n', c', z, rfl, rfl, hst⟩, hbw⟩ := hrel
        have HBW9 := hide hbw
        clear hbw
        by_cases hlt : j < N
        · have hj' : j < L.length := by have := HN.out; omega
          obtain ⟨ax, nx, cx, hux, hx, hin⟩ := HAT.out j hj'
          have hx := below_cell HBW9.out hgl hx
          have HB := hide (HBW.out (.slice ax nx cx) L[j] wr (List.getElem_mem hj') (B4.out.trans (HBW9.out.mono B4.out.size)) (inMat_below hin HBW9.out))
          have hb2 := HVF.out L[j]
          have hnf := HNF.out L[j]
          have HMORE := hide fun (t : Nat) (h : PickSt us L vf j (.slice a n' c') (-(t : Int))) (hv : (nf L[j] : Int) < t) => (show PickSt us L vf (j + 1) (.slice ax nx cx) (-(nf L[j] : Int)) by rw [← hnf]; exact hux ▸ pick_more h hj' (by omega))
          have HLESS := hide fun (t : Nat) (h : PickSt us L vf j (.slice a n' c') (-(t : Int))) (hv : ¬ (nf L[j] : Int) < t) => pick_less h hj' (by omega)
          have HFST := hide fun (h : j = 0) => (show PickSt us L vf (j + 1) (.slice ax nx cx) (-(nf L[j] : Int)) by rw [← hnf]; subst h; exact hux ▸ pick_first hj')
          obtain ⟨y, hy⟩ : ∃ y, y = nf L[j] := ⟨_, rfl⟩
          rw [← hy] at HB hb2 HMORE HLESS HFST
          clear hin hy hnf
          rcases hst with ⟨h0, rfl⟩ | ⟨t, ht, rfl, hp9⟩
          · have HS2 := hide (HFST.out h0)
            subst h0
            clear HMORE HLESS HFST
            go_wp2_with (go_at_call 64; refine HB.out.mono ?_; rintro e w9 ⟨rfl, b9⟩; have HBN := hide (HBW9.out.trans (b9.mono HBW9.out.size)); clear b9)
            go_roundw
            case rel => exact ⟨1, by omega, rfl, ⟨_, _, _, _, rfl, rfl, .inr ⟨y, hb2, rfl, HS2.out⟩⟩, HBN.out⟩
            case measure => simp [intOf]; omega
          · by_cases hgt : y < t
            · have HS2 := hide (HMORE.out t hp9 (by omega))
              clear HMORE HLESS HFST hp9
              go_wp2_with (go_at_call 64; refine HB.out.mono ?_; rintro e w9 ⟨rfl, b9⟩; have HBN := hide (HBW9.out.trans (b9.mono HBW9.out.size)); clear b9)
              go_roundw
              case rel => exact ⟨j + 1, by omega, by go_num, ⟨_, _, _, _, rfl, rfl, .inr ⟨y, hb2, rfl, HS2.out⟩⟩, HBN.out⟩
              case measure => simp [intOf]; omega
            · have HS2 := hide (HLESS.out t hp9 (by omega))
              clear HMORE HLESS HFST hp9
              go_wp2_with (go_at_call 64; refine HB.out.mono ?_; rintro e w9 ⟨rfl, b9⟩; have HBN := hide (HBW9.out.trans (b9.mono HBW9.out.size)); clear b9)
              go_roundw
              case rel => exact ⟨j + 1, by omega, by go_num, ⟨_, _, _, _, rfl, rfl, .inr ⟨t, ht, rfl, HS2.out⟩⟩, HBN.out⟩
              case measure => simp [intOf]; omega
        · have hst2 := hst.resolve_left fun e => by omega
          obtain ⟨t, ht, rfl, hp9⟩ := hst2
          have HP9 := hide hp9
          have hjN : j = L.length := by have := HN.out; omega
          clear hst hp9
          go_wp2
          refine bodyPost_ret (results_tmp3 rfl _ _ _) rfl ?_
          have hp9 := HP9.out
          rw [hjN] at hp9
          obtain ⟨i, hi, e1, e2⟩ := pick_end hp9
          rw [HPP.out] at e1
          obtain rfl := Option.some.inj e1
          obtain ⟨hi2, h1, h2⟩ := HM.out i hi
          rw [← e2] at h2
          refine ⟨.slice a n' c', by show Ending.returned (.tuple #[.slice a n' c', .int .i64 (t : Int), .bool true]) = Ending.returned (.tuple #[.slice a n' c', .int .i64 (-(-(t : Int))), .bool true]); rw [Int.neg_neg], ownMat_mono (ownMat_below h2 HBW9.out) (Nat.le_refl _) (Nat.le_trans h1 HBW9.out.size), B4.out.trans (HBW9.out.mono B4.out.size)⟩
end Go.Proofs.YtldbgkmgmhlbiaaGreat
/-
  The exact law on NearestImage, walked.
-/
namespace Go.Proofs.YtldbgkmgmhlbiaaGreat
open Go.RowKit
set_option linter.unusedVariables false

theorem pickP_len2 (vf : List (List Int) → Int) (r c : List Int) (ok : Bool) (h : ok = true → existsOf r c = true) : (pickP vf r c ok).1.length + cellsM (pickP vf r c ok).1 ≤ 1000000 := by
  unfold pickP
  cases ok with
  | false => simp [cellsM]
  | true =>
    have he := h rfl
    obtain ⟨p, hp, hm, -⟩ := bestF_some (vf := vf) (allL_ne he)
    rw [if_pos rfl, hp, Option.getD_some]
    obtain ⟨hr5, hc5, -⟩ := sumsOk_yes (existsOf_sums he)
    rw [(allL_mk he hm).1, mkM_len, cells_mkM]
    have : r.length * c.length ≤ 5 * 5 := Nat.mul_le_mul hr5.2 hc5.2
    omega

theorem nearP_len (r c : List Int) (k : List (List Int)) : (nearP r c k).1.length + cellsM (nearP r c k).1 ≤ 1000000 :=
  pickP_len2 _ r c _ fun h => by unfold nearB at h; rw [Bool.and_eq_true, Bool.and_eq_true, Bool.and_eq_true] at h; exact h.1.1.1

set_option maxRecDepth 100000 in
set_option maxHeartbeats 4000000 in
theorem lawNearestImage_gen (a0 : Option Addr) (n0 c0 : Nat) (r0 : List Int) (a1 : Option Addr) (n1 c1 : Nat) (r1 : List Int) (a2 : Option Addr) (n2 c2 : Nat) (m2 : List (List Int)) (w : World) (hin0 : InRow w (.slice a0 n0 c0) r0) (hin1 : InRow w (.slice a1 n1 c1) r1) (hin2 : InMat w (.slice a2 n2 c2) m2) (m_0 : List (List Int)) (v_1 : Int) (b_2 : Bool) (hres0 : m_0.length + cellsM m_0 ≤ 1000000)
    (hs : ∀ (v0 v1 v2 : Value) (w : World), RowC w v0 r0 → RowC w v1 r1 → InMat w v2 m2 → Calls Tryz.prog 21 #[v0, v1, v2] w (fun e w' => ∃ u0, e = .returned (.tuple #[u0, .int .i64 v_1, .bool b_2]) ∧ OwnMat w' w.heap.size w'.heap.size u0 m_0 ∧ Below w.heap.size w w'))
    (hi : ∀ (v0 v1 v2 : Value) (w : World), RowC w v0 r0 → RowC w v1 r1 → InMat w v2 m2 → Calls Tryz.prog 8 #[v0, v1, v2] w (fun e w' => ∃ u0, e = .returned (.tuple #[u0, .int .i64 v_1, .bool b_2]) ∧ OwnMat w' w.heap.size w'.heap.size u0 m_0 ∧ Below w.heap.size w w')) :
    Calls Tryz.prog 5 #[.slice a0 n0 c0, .slice a1 n1 c1, .slice a2 n2 c2] w fun e w' => e = .returned (.bool true) ∧ Below w.heap.size w w' := by
  have HI0 := hide hin0
  obtain ⟨a', c', he, hm0, -⟩ := hin0
  cases he
  unfold maxLen at hm0
  have HI1 := hide hin1
  obtain ⟨a', c', he, hm1, -⟩ := hin1
  cases he
  unfold maxLen at hm1
  have HI2 := hide hin2
  obtain ⟨a', c', he, hm2, -⟩ := hin2
  cases he
  unfold maxLen at hm2
  by_cases hr0 : 1048576 < r0.length
  · clear hs hi
    obtain ⟨R0, hR0⟩ : ∃ x, x = r0.length := ⟨_, rfl⟩
    obtain ⟨R1, hR1⟩ : ∃ x, x = r1.length := ⟨_, rfl⟩
    obtain ⟨R2, hR2⟩ : ∃ x, x = m2.length := ⟨_, rfl⟩
    rw [← hR0] at HI0 hm0 hr0 ⊢
    rw [← hR1] at HI1 hm1 ⊢
    rw [← hR2] at HI2 hm2 ⊢
    clear hR0 hR1 hR2
    go_enter Tryz.func5, Tryz.ntmps5
    go_wp2
    go_ret
    exact ⟨rfl, Below.refl _ _⟩
  · by_cases hr1 : 1048576 < r1.length
    · clear hs hi
      obtain ⟨R0, hR0⟩ : ∃ x, x = r0.length := ⟨_, rfl⟩
      obtain ⟨R1, hR1⟩ : ∃ x, x = r1.length := ⟨_, rfl⟩
      obtain ⟨R2, hR2⟩ : ∃ x, x = m2.length := ⟨_, rfl⟩
      rw [← hR0] at HI0 hm0 hr0 ⊢
      rw [← hR1] at HI1 hm1 hr1 ⊢
      rw [← hR2] at HI2 hm2 ⊢
      clear hR0 hR1 hR2
      go_enter Tryz.func5, Tryz.ntmps5
      go_wp2
      go_ret
      exact ⟨rfl, Below.refl _ _⟩
    · skip
      have HR0 : Hid (r0.length ≤ 2000000) := hide (by omega)
      have HR1 : Hid (r1.length ≤ 2000000) := hide (by omega)
      have hbb2 : (b_2 != b_2) = false := by cases b_2 <;> rfl
      go_enter Tryz.func5, Tryz.ntmps5
      go_wp2_with fail
      refine (szIntSS_any _ m2 (1048576) _ (by omega) HI2.out).mono ?_
      rintro e w1 ⟨q2, rfl, hq2, hb⟩
      have HB1 := hide (hb)
      have s1 := hb.size
      clear hb
      rcases hq2 with rfl | ⟨hsz2, rfl⟩
      · go_wp2
        go_ret
        exact ⟨rfl, HB1.out⟩
      · skip
        have HZ2 : Hid (m2.length + cellsM m2 ≤ 1048576) := hide (by omega)
        have HS := hide (hs); have HM := hide (hi)
        clear hs hi
        go_wp2_with fail
        refine (toIntS_any _ r0 _ HR0.out (inRow_below HI0.out HB1.out)).mono ?_
        rintro e w2 ⟨p0, rfl, ho, hb⟩
        have P0L := hide (fun k e => (ho).lt k e)
        have P0_2 := hide (ho)
        have HB2 := hide (HB1.out.trans (hb.mono HB1.out.size))
        have s2 := hb.size
        clear ho hb
        go_wp2_with fail
        refine (toIntS_any _ r1 _ HR1.out (inRow_below HI1.out HB2.out)).mono ?_
        rintro e w3 ⟨p1, rfl, ho, hb⟩
        have P0_3 := hide (own_below P0_2.out hb)
        have P1L := hide (fun k e => (ho).lt k e)
        have P1_3 := hide (ho)
        have HB3 := hide (HB2.out.trans (hb.mono HB2.out.size))
        have s3 := hb.size
        clear ho hb
        go_wp2_with fail
        refine (toIntSS_any _ m2 _ (by have := HZ2.out; omega) (inMat_below HI2.out HB3.out)).mono ?_
        rintro e w4 ⟨p2, rfl, ho, hb⟩
        have P0_4 := hide (own_below P0_3.out hb)
        have P1_4 := hide (own_below P1_3.out hb)
        have P2_4 := hide (ho)
        have HB4 := hide (HB3.out.trans (hb.mono HB3.out.size))
        have s4 := hb.size
        clear ho hb
        go_wp2_with fail
        refine (HS.out p0 p1 p2 _ (rowC_own P0_4.out) (rowC_own P1_4.out) (inMat_own P2_4.out)).mono ?_
        rintro e w5 ⟨u0, rfl, ho, hb⟩
        have U0_5 := hide (ho)
        have HB5 := hide (HB4.out.trans (hb.mono HB4.out.size))
        have s5 := hb.size
        clear ho hb
        go_wp2_with fail
        refine (toIntS_any _ r0 _ HR0.out (inRow_below HI0.out HB5.out)).mono ?_
        rintro e w6 ⟨x0, rfl, ho, hb⟩
        have U0_6 := hide (ownMat_below U0_5.out hb)
        have X0L := hide (fun k e => (ho).lt k e)
        have X0_6 := hide (ho)
        have HB6 := hide (HB5.out.trans (hb.mono HB5.out.size))
        have s6 := hb.size
        clear ho hb
        go_wp2_with fail
        refine (toIntS_any _ r1 _ HR1.out (inRow_below HI1.out HB6.out)).mono ?_
        rintro e w7 ⟨x1, rfl, ho, hb⟩
        have U0_7 := hide (ownMat_below U0_6.out hb)
        have X0_7 := hide (own_below X0_6.out hb)
        have X1L := hide (fun k e => (ho).lt k e)
        have X1_7 := hide (ho)
        have HB7 := hide (HB6.out.trans (hb.mono HB6.out.size))
        have s7 := hb.size
        clear ho hb
        go_wp2_with fail
        refine (toIntSS_any _ m2 _ (by have := HZ2.out; omega) (inMat_below HI2.out HB7.out)).mono ?_
        rintro e w8 ⟨x2, rfl, ho, hb⟩
        have U0_8 := hide (ownMat_below U0_7.out hb)
        have X0_8 := hide (own_below X0_7.out hb)
        have X1_8 := hide (own_below X1_7.out hb)
        have X2_8 := hide (ho)
        have HB8 := hide (HB7.out.trans (hb.mono HB7.out.size))
        have s8 := hb.size
        clear ho hb
        go_wp2_with fail
        refine (HM.out x0 x1 x2 _ (rowC_own X0_8.out) (rowC_own X1_8.out) (inMat_own X2_8.out)).mono ?_
        rintro e w9 ⟨g0, rfl, ho, hb⟩
        have U0_9 := hide (ownMat_below U0_8.out hb)
        have X0_9 := hide (own_below X0_8.out hb)
        have X1_9 := hide (own_below X1_8.out hb)
        have X2_9 := hide (ownMat_below X2_8.out hb)
        have G0_9 := hide (ho)
        have HB9 := hide (HB8.out.trans (hb.mono HB8.out.size))
        have s9 := hb.size
        clear ho hb
        go_wp2_with fail
        refine (eqIntSS_same g0 u0 m_0 _ (inMat_own G0_9.out) (inMat_own U0_9.out)).mono ?_
        rintro e w10 ⟨rfl, hb⟩
        have U0_10 := hide (ownMat_below U0_9.out hb)
        have X0_10 := hide (own_below X0_9.out hb)
        have X1_10 := hide (own_below X1_9.out hb)
        have X2_10 := hide (ownMat_below X2_9.out hb)
        have G0_10 := hide (ownMat_below G0_9.out hb)
        have HB10 := hide (HB9.out.trans (hb.mono HB9.out.size))
        have s10 := hb.size
        clear hb
        go_wp2_with fail
        refine (toIntS_any _ r0 _ HR0.out (inRow_below HI0.out HB10.out)).mono ?_
        rintro e w11 ⟨z0, rfl, ho, hb⟩
        have U0_11 := hide (ownMat_below U0_10.out hb)
        have X0_11 := hide (own_below X0_10.out hb)
        have X1_11 := hide (own_below X1_10.out hb)
        have X2_11 := hide (ownMat_below X2_10.out hb)
        have G0_11 := hide (ownMat_below G0_10.out hb)
        have Z0L := hide (fun k e => (ho).lt k e)
        have Z0_11 := hide (ho)
        have HB11 := hide (HB10.out.trans (hb.mono HB10.out.size))
        have s11 := hb.size
        clear ho hb
        go_wp2_with fail
        refine (eqIntS_same x0 z0 r0 _ (inRow_own X0_11.out) (inRow_own Z0_11.out)).mono ?_
        rintro e w12 ⟨rfl, hb⟩
        have U0_12 := hide (ownMat_below U0_11.out hb)
        have X0_12 := hide (own_below X0_11.out hb)
        have X1_12 := hide (own_below X1_11.out hb)
        have X2_12 := hide (ownMat_below X2_11.out hb)
        have G0_12 := hide (ownMat_below G0_11.out hb)
        have HB12 := hide (HB11.out.trans (hb.mono HB11.out.size))
        have s12 := hb.size
        clear hb
        go_wp2_with fail
        refine (toIntS_any _ r1 _ HR1.out (inRow_below HI1.out HB12.out)).mono ?_
        rintro e w13 ⟨z1, rfl, ho, hb⟩
        have U0_13 := hide (ownMat_below U0_12.out hb)
        have X0_13 := hide (own_below X0_12.out hb)
        have X1_13 := hide (own_below X1_12.out hb)
        have X2_13 := hide (ownMat_below X2_12.out hb)
        have G0_13 := hide (ownMat_below G0_12.out hb)
        have Z1L := hide (fun k e => (ho).lt k e)
        have Z1_13 := hide (ho)
        have HB13 := hide (HB12.out.trans (hb.mono HB12.out.size))
        have s13 := hb.size
        clear ho hb
        go_wp2_with fail
        refine (eqIntS_same x1 z1 r1 _ (inRow_own X1_13.out) (inRow_own Z1_13.out)).mono ?_
        rintro e w14 ⟨rfl, hb⟩
        have U0_14 := hide (ownMat_below U0_13.out hb)
        have X0_14 := hide (own_below X0_13.out hb)
        have X1_14 := hide (own_below X1_13.out hb)
        have X2_14 := hide (ownMat_below X2_13.out hb)
        have G0_14 := hide (ownMat_below G0_13.out hb)
        have HB14 := hide (HB13.out.trans (hb.mono HB13.out.size))
        have s14 := hb.size
        clear hb
        go_wp2_with fail
        refine (toIntSS_any _ m2 _ (by have := HZ2.out; omega) (inMat_below HI2.out HB14.out)).mono ?_
        rintro e w15 ⟨z2, rfl, ho, hb⟩
        have U0_15 := hide (ownMat_below U0_14.out hb)
        have X0_15 := hide (own_below X0_14.out hb)
        have X1_15 := hide (own_below X1_14.out hb)
        have X2_15 := hide (ownMat_below X2_14.out hb)
        have G0_15 := hide (ownMat_below G0_14.out hb)
        have Z2_15 := hide (ho)
        have HB15 := hide (HB14.out.trans (hb.mono HB14.out.size))
        have s15 := hb.size
        clear ho hb
        go_wp2_with fail
        refine (eqIntSS_same x2 z2 m2 _ (inMat_own X2_15.out) (inMat_own Z2_15.out)).mono ?_
        rintro e w16 ⟨rfl, hb⟩
        have U0_16 := hide (ownMat_below U0_15.out hb)
        have X0_16 := hide (own_below X0_15.out hb)
        have X1_16 := hide (own_below X1_15.out hb)
        have X2_16 := hide (ownMat_below X2_15.out hb)
        have G0_16 := hide (ownMat_below G0_15.out hb)
        have HB16 := hide (HB15.out.trans (hb.mono HB15.out.size))
        have s16 := hb.size
        clear hb
        go_wp2_with fail
        refine (markIntS_any r0.length 1 x0 _ _ _ (by have := HR0.out; omega) (by omega) X0_16.out).mono ?_
        rintro e w17 ⟨rfl, -, hg⟩
        have hwi := within_grown (lo := w5.heap.size) (hi := w6.heap.size) hg (fun k e => X0L.out k e); clear hg
        have U0_17 := hide (ownMat_within U0_16.out hwi (by omega))
        have X1_17 := hide (own_within X1_16.out hwi (fun k e => by have h1 := X1L.out k e; omega))
        have X2_17 := hide (ownMat_within X2_16.out hwi (by omega))
        have G0_17 := hide (ownMat_within G0_16.out hwi (by omega))
        have HB17 := hide (HB16.out.trans (below_within hwi (by omega) HB16.out.size))
        have s17 := hwi.size
        clear hwi
        go_wp2_with fail
        refine (markIntS_any r1.length (1 + r0.length) x1 _ _ _ (by have := HR1.out; omega) (by have := HR0.out; omega) X1_17.out).mono ?_
        rintro e w18 ⟨rfl, -, hg⟩
        have hwi := within_grown (lo := w6.heap.size) (hi := w7.heap.size) hg (fun k e => X1L.out k e); clear hg
        have U0_18 := hide (ownMat_within U0_17.out hwi (by omega))
        have X2_18 := hide (ownMat_within X2_17.out hwi (by omega))
        have G0_18 := hide (ownMat_within G0_17.out hwi (by omega))
        have HB18 := hide (HB17.out.trans (below_within hwi (by omega) HB17.out.size))
        have s18 := hwi.size
        clear hwi
        go_wp2_with fail
        refine (markIntSSB_any m2 (1 + r0.length + r1.length) _ _ x2 _ (by have := HZ2.out; omega) (by have := HR0.out; have := HR1.out; omega) X2_18.out).mono ?_
        rintro e w19 ⟨rfl, -, hwi⟩
        have U0_19 := hide (ownMat_within U0_18.out hwi (by omega))
        have G0_19 := hide (ownMat_within G0_18.out hwi (by omega))
        have HB19 := hide (HB18.out.trans (below_within hwi (by omega) HB18.out.size))
        have s19 := hwi.size
        clear hwi
        go_wp2_with fail
        refine (eqIntSS_same g0 u0 m_0 _ (inMat_own G0_19.out) (inMat_own U0_19.out)).mono ?_
        rintro e w20 ⟨rfl, hb⟩
        have U0_20 := hide (ownMat_below U0_19.out hb)
        have G0_20 := hide (ownMat_below G0_19.out hb)
        have HB20 := hide (HB19.out.trans (hb.mono HB19.out.size))
        have s20 := hb.size
        clear hb
        go_wp2_with fail
        refine (markIntSSB_any m_0 1 _ _ g0 _ (by omega) (by omega) G0_20.out).mono ?_
        rintro e w21 ⟨rfl, ho, hwi⟩
        have U0_21 := hide (ownMat_within U0_20.out hwi (by omega))
        have HB21 := hide (HB20.out.trans (below_within hwi (by omega) HB20.out.size))
        have s21 := hwi.size
        clear hwi
        have M_21 := hide (inMat_own ho); clear ho
        go_wp2_with fail
        refine (heldIntSS_any m_0 1 g0 _ (by omega) (by omega) M_21.out).mono ?_
        rintro e w22 ⟨rfl, hb⟩
        have U0_22 := hide (ownMat_below U0_21.out hb)
        have M_22 := hide (inMat_below M_21.out hb)
        have HB22 := hide (HB21.out.trans (hb.mono HB21.out.size))
        have s22 := hb.size
        clear hb
        go_wp2_with fail
        refine (toIntS_any _ r0 _ HR0.out (inRow_below HI0.out HB22.out)).mono ?_
        rintro e w23 ⟨y0, rfl, ho, hb⟩
        have U0_23 := hide (ownMat_below U0_22.out hb)
        have M_23 := hide (inMat_below M_22.out hb)
        have Y0L := hide (fun k e => (ho).lt k e)
        have Y0_23 := hide (ho)
        have HB23 := hide (HB22.out.trans (hb.mono HB22.out.size))
        have s23 := hb.size
        clear ho hb
        go_wp2_with fail
        refine (toIntS_any _ r1 _ HR1.out (inRow_below HI1.out HB23.out)).mono ?_
        rintro e w24 ⟨y1, rfl, ho, hb⟩
        have U0_24 := hide (ownMat_below U0_23.out hb)
        have M_24 := hide (inMat_below M_23.out hb)
        have Y0_24 := hide (own_below Y0_23.out hb)
        have Y1L := hide (fun k e => (ho).lt k e)
        have Y1_24 := hide (ho)
        have HB24 := hide (HB23.out.trans (hb.mono HB23.out.size))
        have s24 := hb.size
        clear ho hb
        go_wp2_with fail
        refine (toIntSS_any _ m2 _ (by have := HZ2.out; omega) (inMat_below HI2.out HB24.out)).mono ?_
        rintro e w25 ⟨y2, rfl, ho, hb⟩
        have U0_25 := hide (ownMat_below U0_24.out hb)
        have M_25 := hide (inMat_below M_24.out hb)
        have Y0_25 := hide (own_below Y0_24.out hb)
        have Y1_25 := hide (own_below Y1_24.out hb)
        have Y2_25 := hide (ho)
        have HB25 := hide (HB24.out.trans (hb.mono HB24.out.size))
        have s25 := hb.size
        clear ho hb
        go_wp2_with fail
        refine (HM.out y0 y1 y2 _ (rowC_own Y0_25.out) (rowC_own Y1_25.out) (inMat_own Y2_25.out)).mono ?_
        rintro e w26 ⟨h0, rfl, ho, hb⟩
        have U0_26 := hide (ownMat_below U0_25.out hb)
        have M_26 := hide (inMat_below M_25.out hb)
        have H0_26 := hide (ho)
        have HB26 := hide (HB25.out.trans (hb.mono HB25.out.size))
        have s26 := hb.size
        clear ho hb
        go_wp2_with fail
        refine (eqIntSS_same h0 u0 m_0 _ (inMat_own H0_26.out) (inMat_own U0_26.out)).mono ?_
        rintro e w27 ⟨rfl, hb⟩
        have U0_27 := hide (ownMat_below U0_26.out hb)
        have M_27 := hide (inMat_below M_26.out hb)
        have H0_27 := hide (ownMat_below H0_26.out hb)
        have HB27 := hide (HB26.out.trans (hb.mono HB26.out.size))
        have s27 := hb.size
        clear hb
        go_wp2_with fail
        refine (heldIntSS_any m_0 1 g0 _ (by omega) (by omega) M_27.out).mono ?_
        rintro e w28 ⟨rfl, hb⟩
        have M_28 := hide (inMat_below M_27.out hb)
        have HB28 := hide (HB27.out.trans (hb.mono HB27.out.size))
        have s28 := hb.size
        clear hb
        go_wp2
        go_ret
        exact ⟨rfl, HB28.out⟩

theorem lawNearestImage_walk (a0 : Option Addr) (n0 c0 : Nat) (r0 : List Int) (a1 : Option Addr) (n1 c1 : Nat) (r1 : List Int) (a2 : Option Addr) (n2 c2 : Nat) (m2 : List (List Int)) (w : World) (hin0 : InRow w (.slice a0 n0 c0) r0) (hin1 : InRow w (.slice a1 n1 c1) r1) (hin2 : InMat w (.slice a2 n2 c2) m2) :
    Calls Tryz.prog 5 #[.slice a0 n0 c0, .slice a1 n1 c1, .slice a2 n2 c2] w fun e w' => e = .returned (.bool true) ∧ Below w.heap.size w w' :=
  lawNearestImage_gen a0 n0 c0 r0 a1 n1 c1 r1 a2 n2 c2 m2 w hin0 hin1 hin2 (nearP r0 r1 m2).1 (nearP r0 r1 m2).2 (nearB r0 r1 m2) (nearP_len r0 r1 m2) (fun v0 v1 v2 w h0 h1 h2 => specNearest_any v0 v1 v2 r0 r1 m2 w h0 h1 h2) (fun v0 v1 v2 w h0 h1 h2 => implNearest_any v0 v1 v2 r0 r1 m2 w h0 h1 h2)
end Go.Proofs.YtldbgkmgmhlbiaaGreat
