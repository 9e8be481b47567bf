/-
  Texts of this claim, one behind the other: PrOk, LawsWt.
-/
import Derived.Test.YtldbgkmgmhlbiaaPackE
import Derived.Test.YtldbgkmgmhlbiaaPackB
import Derived.Test.YtldbgkmgmhlbiaaPackC
/-
  PricesOk, of the program and of the model.
-/
namespace Go.Proofs.Ytldbgkmgmhlbiaa
open Go.RowKit Go.Shelf

/-- A cell whose rest of the weight fits its colour. -/
def prC (c d : Int) : Bool := !((c == 1 && decide (d < 0)) || (c == 0 && decide (d > 0)))
def prB (R C : Nat) (g f : Nat → Nat → Int) (a b : Nat → Int) : Bool := (List.range R).all fun y => (List.range C).all fun x => prC (f y x) (g y x - a y - b x)
def prOkB (k m : List (List Int)) (a b : List Int) : Bool :=
  wtOfB k m && (a.length == m.length) && (b.length == widthM m) && within a 1000 && within b 1000 && prB m.length (widthM m) (cellM k) (cellM m) (fun y => a.getD y 0) (fun x => b.getD x 0)
theorem prB_no {R C : Nat} {g f : Nat → Nat → Int} {a b : Nat → Int} {y x : Nat} (hy : y < R) (hx : x < C) (h : prC (f y x) (g y x - a y - b x) = false) : prB R C g f a b = false := by
  unfold prB
  rw [List.all_eq_false]
  refine ⟨y, List.mem_range.2 hy, ?_⟩
  rw [Bool.not_eq_true, List.all_eq_false]
  exact ⟨x, List.mem_range.2 hx, by rw [h]; simp⟩
theorem prB_yes {R C : Nat} {g f : Nat → Nat → Int} {a b : Nat → Int} (h : ∀ y x, y < R → x < C → prC (f y x) (g y x - a y - b x) = true) : prB R C g f a b = true := by
  unfold prB
  rw [List.all_eq_true]
  intro y hy
  rw [List.all_eq_true]
  intro x hx
  exact h y x (List.mem_range.1 hy) (List.mem_range.1 hx)
theorem prB_congr {R C : Nat} {g g' f f' : Nat → Nat → Int} {a b : Nat → Int} (hg : ∀ y x, y < R → x < C → g y x = g' y x) (hf : ∀ y x, y < R → x < C → f y x = f' y x) : prB R C g f a b = prB R C g' f' a b := by
  cases h : prB R C g' f' a b with
  | true =>
    refine prB_yes fun y x hy hx => ?_
    rw [hg y x hy hx, hf y x hy hx]
    unfold prB at h
    rw [List.all_eq_true] at h
    have := h y (List.mem_range.2 hy)
    rw [List.all_eq_true] at this
    exact this x (List.mem_range.2 hx)
  | false =>
    unfold prB at h
    rw [List.all_eq_false] at h
    obtain ⟨y, hy, h⟩ := h
    rw [Bool.not_eq_true, List.all_eq_false] at h
    obtain ⟨x, hx, h⟩ := h
    rw [List.mem_range] at hy hx
    refine prB_no hy hx ?_
    rw [hg y x hy hx, hf y x hy hx]
    simpa using h
theorem within_at {r : List Int} {most : Int} (h : within r most = true) {i : Nat} (hi : i < r.length) : -most ≤ r.getD i 0 ∧ r.getD i 0 ≤ most := by
  unfold within at h
  have := List.all_eq_true.1 h _ (List.getElem_mem hi)
  rw [List.getD_eq_getElem?_getD, List.getElem?_eq_getElem hi, Option.getD_some]
  simpa using this
theorem getD_at {r : List Int} {i : Nat} (hi : i < r.length) : r[i] = r.getD i 0 := by
  rw [List.getD_eq_getElem?_getD, List.getElem?_eq_getElem hi, Option.getD_some]
theorem l09Prices_any (v : Value) (r : List Int) (n : Nat) (w : World) (hn : n ≤ 5) (hin : InRow w v r) :
    Calls Try.prog 43 #[v, .int .i64 n] w fun e w' => e = .returned (.bool (r.length == n && within r 1000)) ∧ w = w' := by
  obtain ⟨a, c, rfl, hm, hp⟩ := hin
  unfold maxLen at hm
  by_cases hlen : r.length = n
  · have HW : Hid ((r.length == n && within r 1000) = r.all fun x => decide ((-1000 : Int) ≤ x ∧ x ≤ 1000)) := hide (by rw [beq_iff_eq.2 hlen, Bool.true_and]; rfl)
    rw [HW.out]
    by_cases h0 : r.length = 0
    · have hr : r = [] := List.eq_nil_of_length_eq_zero h0
      subst hr
      obtain rfl : n = 0 := by simpa using hlen.symm
      clear hp h0 hm hlen hn HW
      go_enter Try.func43, Try.ntmps43
      go_wp2
      go_loop [13] (fun i => i = .int .i64 0) (fun _ => 0)
      case atStart => rfl
      case round =>
        obtain rfl := hrel
        go_wp2
        go_ret
        exact ⟨rfl, rfl⟩
    · obtain ⟨g, o, rfl, hg, hc⟩ := hp.resolve_left h0
      have HC := hide hc; have HL := hide hlen
      rw [hlen] at hm ⊢
      clear hp hc hlen h0 HW
      go_enter Try.func43, Try.ntmps43
      go_wp2
      go_loop [13] (fun i => ∃ k : Nat, k ≤ n ∧ i = .int .i64 k ∧ ∀ t, (h : t < r.length) → t < k → (decide ((-1000 : Int) ≤ r[t] ∧ r[t] ≤ 1000)) = true) (fun i => n - (intOf i).toNat)
      case atStart => exact ⟨0, Nat.zero_le _, rfl, fun t _ h => absurd h (Nat.not_lt_zero _)⟩
      case round =>
        obtain ⟨k, hk, rfl, hall⟩ := hrel
        have HA := hide hall
        clear hall
        by_cases hlt : k < n
        · have hk' : k < r.length := by rw [HL.out]; exact hlt
          have hx := HC.out k hk'
          have HNO := hide (fun h => all_no (p := fun x => decide ((-1000 : Int) ≤ x ∧ x ≤ 1000)) k hk' h)
          have HST := hide (show decide ((-1000 : Int) ≤ r[k] ∧ r[k] ≤ 1000) = true → ∀ t, (h : t < r.length) → t < k + 1 → decide ((-1000 : Int) ≤ r[t] ∧ r[t] ≤ 1000) = true from fun hc t ht h => by
            by_cases e : t = k
            · subst e; exact hc
            · exact HA.out t ht (by omega))
          obtain ⟨y, hyy⟩ : ∃ y, y = r[k] := ⟨_, rfl⟩
          rw [← hyy] at hx HNO HST
          have HCALL := hide fun w' => l01In_any y (-1000) 1000 w'
          obtain ⟨q, hq⟩ : ∃ q, q = decide ((-1000 : Int) ≤ y ∧ y ≤ 1000) := ⟨_, rfl⟩
          rw [← hq] at HCALL HNO HST
          clear hyy hq
          cases q with
          | true =>
            have HS2 := hide (HST.out rfl)
            clear HNO HST
            go_wp2_with (go_at_call 49; refine (HCALL.out _).mono ?_; rintro e w9 ⟨rfl, rfl⟩)
            go_round
            case rel => exact ⟨k + 1, by omega, by go_num, HS2.out⟩
            case measure => simp [intOf]; omega
          | false =>
            have HF := hide (HNO.out rfl)
            clear HST HNO
            go_wp2_with (go_at_call 49; refine (HCALL.out _).mono ?_; rintro e w9 ⟨rfl, rfl⟩)
            go_ret
            exact ⟨ret_bool HF.out.symm, rfl⟩
        · have HY := hide (all_yes (p := fun x => decide ((-1000 : Int) ≤ x ∧ x ≤ 1000)) fun t ht => HA.out t ht (by have := HL.out; omega))
          go_wp2
          go_ret
          exact ⟨ret_bool (by have h := HY.out; simp only [Bool.decide_and] at h; exact h.symm), rfl⟩
  · rw [show (r.length == n) = false from beq_eq_false_iff_ne.2 hlen, Bool.false_and]
    obtain ⟨l, hl⟩ : ∃ l, l = r.length := ⟨_, rfl⟩
    rw [← hl] at hlen hm ⊢
    have hne : ((l : Int) != (n : Int)) = true := by simp; omega
    clear hl hp hlen
    go_enter Try.func43, Try.ntmps43
    go_wp2
    go_ret
    exact ⟨rfl, rfl⟩

set_option maxRecDepth 100000 in
set_option maxHeartbeats 2000000 in
theorem implPricesOk_any (vk vm va vb : Value) (k m : List (List Int)) (a b : List Int) (w : World) (hk : InMat w vk k) (hm : InMat w vm m) (ha : InRow w va a) (hb : InRow w vb b) :
    Calls Try.prog 23 #[vk, vm, va, vb] w fun e w' => e = .returned (.bool (prOkB k m a b)) ∧ Below w.heap.size w w' := by
  have HWO := hide (implWeightOf_any vk vm k m w hk hm)
  cases h : wtOfB k m with
  | false =>
    rw [h] at HWO
    have HF : Hid (prOkB k m a b = false) := hide (by simp only [prOkB, h, Bool.false_and])
    rw [HF.out]
    obtain ⟨x, hx⟩ : ∃ x, x = wtOf k m := ⟨_, rfl⟩
    rw [← hx] at HWO
    obtain ⟨ak, ck, rfl, -, -⟩ := hk
    obtain ⟨am, cm, rfl, -, -⟩ := hm
    obtain ⟨aa, ca, rfl, -, -⟩ := ha
    obtain ⟨ab, cb, rfl, -, -⟩ := hb
    generalize k.length = n1 at *
    generalize m.length = n2 at *
    generalize a.length = n3 at *
    generalize b.length = n4 at *
    clear hx h HF
    go_enter Try.func23, Try.ntmps23
    go_wp2_with (go_at_call 14; refine HWO.out.mono ?_; rintro e w1 ⟨rfl, b1⟩; have B1 := hide b1; clear b1)
    go_ret
    exact ⟨rfl, B1.out⟩
  | true =>
    rw [h] at HWO
    have hok : okB m = true := by unfold wtOfB at h; rw [Bool.and_eq_true] at h; exact h.1
    obtain ⟨R, C, f, rfl, hI⟩ := ok_img hok
    have hR1 := hI.r1; have hC1 := hI.c1; have hR := hI.r2; have hC := hI.c2
    have hsz : sizeB k R C (-100) 100 = true := by
      unfold wtOfB at h
      rw [Bool.and_eq_true, mkM_len, width_mkM hR1] at h
      exact wtB_nat h.2
    obtain ⟨hkm, hWt⟩ := sizeB_wt hsz
    have HP : Hid (prOkB k (mkM R C f) a b = ((a.length == R) && (b.length == C) && within a 1000 && within b 1000 && prB R C (cellM k) f (fun y => a.getD y 0) (fun x => b.getD x 0))) := hide (by
      rw [prOkB, h, Bool.true_and, mkM_len, width_mkM hR1, prB_congr (fun _ _ _ _ => rfl) fun y x hy hx => cell_mk R C f hy hx])
    rw [HP.out]
    obtain ⟨x, hx⟩ : ∃ x, x = wtOf k (mkM R C f) := ⟨_, rfl⟩
    rw [← hx] at HWO
    have hk2 := hk
    rw [hkm] at hk2
    obtain ⟨g, hg⟩ : ∃ g, g = cellM k := ⟨_, rfl⟩
    rw [← hg] at hk2 hWt ⊢
    obtain ⟨ga, oa, ca, hvk, hga, hca⟩ := inMat_img hk2 (by omega) (by omega)
    obtain ⟨gb, ob, cb, hvm, hgb, hcb⟩ := inMat_img hm (by omega) (by omega)
    subst hvk hvm
    obtain ⟨g0, o0, c0, hx0, hg0, -⟩ := hcb 0 (by omega)
    rw [Nat.add_zero] at hx0
    have HK := hide hca; have HM := hide hcb; have HI := hide hI; have HW := hide hWt
    have HX0 := hide hx0
    obtain ⟨aa, cca, rfl, hma, hpa⟩ := ha
    obtain ⟨ab, ccb, rfl, hmb, hpb⟩ := hb
    unfold maxLen at hma hmb
    have HNA := hide fun w1 (b1 : Below w.heap.size w w1) => numbersWithin_any (.slice aa a.length cca) a 1000 w1 (by omega) (inRow_below ⟨aa, cca, rfl, by unfold maxLen; exact hma, hpa⟩ b1)
    have HNB := hide fun w1 (b1 : Below w.heap.size w w1) => numbersWithin_any (.slice ab b.length ccb) b 1000 w1 (by omega) (inRow_below ⟨ab, ccb, rfl, by unfold maxLen; exact hmb, hpb⟩ b1)
    obtain ⟨la, hla⟩ : ∃ la, la = a.length := ⟨_, rfl⟩
    obtain ⟨lb, hlb⟩ : ∃ lb, lb = b.length := ⟨_, rfl⟩
    by_cases h1 : a.length = R
    · rw [show (a.length == R) = true from beq_iff_eq.2 h1, Bool.true_and]
      by_cases h2 : b.length = C
      · rw [show (b.length == C) = true from beq_iff_eq.2 h2, Bool.true_and]
        cases h3 : within a 1000 with
        | false =>
          rw [h3] at HNA
          rw [Bool.false_and, Bool.false_and]
          rw [h1] at HNA hma ⊢
          rw [h2] at HNB hmb ⊢
          clear hx hg h HP hk2 hkm hWt hI hm hk hca hcb hok hsz hx0
          go_enter Try.func23, Try.ntmps23
          go_wp2_with (first | (go_at_call 14; refine HWO.out.mono ?_; rintro e w1 ⟨rfl, b1⟩; have B1 := hide b1; have hx0 := below_cell b1 hgb HX0.out; clear b1) | (go_at_call 33; refine (HNA.out _ B1.out).mono ?_; rintro e w2 ⟨rfl, b2⟩; have B2 := hide b2; clear b2))
          go_ret
          exact ⟨rfl, B1.out.trans (B2.out.mono B1.out.size)⟩
        | true =>
          rw [h3] at HNA
          rw [Bool.true_and]
          cases h4 : within b 1000 with
          | false =>
            rw [h4] at HNB
            rw [Bool.false_and]
            rw [h1] at HNA hma ⊢
            rw [h2] at HNB hmb ⊢
            clear hx hg h HP hk2 hkm hWt hI hm hk hca hcb hok hsz hx0
            go_enter Try.func23, Try.ntmps23
            go_wp2_with (first | (go_at_call 14; refine HWO.out.mono ?_; rintro e w1 ⟨rfl, b1⟩; have B1 := hide b1; have hx0 := below_cell b1 hgb HX0.out; clear b1) | (go_at_call 33; refine (HNA.out _ B1.out).mono ?_; rintro e w2 ⟨rfl, b2⟩; have B2 := hide b2; clear b2) | (go_at_call 33; refine (HNB.out _ (B1.out.trans (B2.out.mono B1.out.size))).mono ?_; rintro e w3 ⟨rfl, b3⟩; have B3 := hide b3; clear b3))
            go_ret
            exact ⟨rfl, (B1.out.trans (B2.out.mono B1.out.size)).trans (B3.out.mono (B1.out.trans (B2.out.mono B1.out.size)).size)⟩
          | true =>
            rw [h4] at HNB
            rw [Bool.true_and]
            obtain ⟨gp, op, rfl, hgp, hcp⟩ := hpa.resolve_left (by omega)
            obtain ⟨gq, oq, rfl, hgq, hcq⟩ := hpb.resolve_left (by omega)
            have HPA : Hid (∀ y, y < R → w.cell? ⟨gp, op + y, none⟩ = some (.int .i64 (a.getD y 0))) := hide fun y hy => by
              rw [hcp y (by omega), getD_at]
            have HPB : Hid (∀ y, y < C → w.cell? ⟨gq, oq + y, none⟩ = some (.int .i64 (b.getD y 0))) := hide fun y hy => by
              rw [hcq y (by omega), getD_at]
            have HBA : Hid (∀ y, y < R → -1000 ≤ a.getD y 0 ∧ a.getD y 0 ≤ 1000) := hide fun y hy => within_at h3 (by omega)
            have HBB2 : Hid (∀ y, y < C → -1000 ≤ b.getD y 0 ∧ b.getD y 0 ≤ 1000) := hide fun y hy => within_at h4 (by omega)
            rw [h1] at HNA hma ⊢
            rw [h2] at HNB hmb ⊢
            obtain ⟨A, hA⟩ : ∃ A : Nat → Int, A = fun y => a.getD y 0 := ⟨_, rfl⟩
            obtain ⟨B, hB⟩ : ∃ B : Nat → Int, B = fun y => b.getD y 0 := ⟨_, rfl⟩
            replace HPA : Hid (∀ y, y < R → w.cell? ⟨gp, op + y, none⟩ = some (.int .i64 (A y))) := hide fun y hy => by rw [hA]; exact HPA.out y hy
            replace HPB : Hid (∀ y, y < C → w.cell? ⟨gq, oq + y, none⟩ = some (.int .i64 (B y))) := hide fun y hy => by rw [hB]; exact HPB.out y hy
            replace HBA : Hid (∀ y, y < R → -1000 ≤ A y ∧ A y ≤ 1000) := hide fun y hy => by rw [hA]; exact HBA.out y hy
            replace HBB2 : Hid (∀ y, y < C → -1000 ≤ B y ∧ B y ≤ 1000) := hide fun y hy => by rw [hB]; exact HBB2.out y hy
            rw [← hA, ← hB]
            clear h1 h2 h3 h4 hA hB hpa hpb hcp hcq hla hlb
            clear hx hg h HP hk2 hkm hWt hI hm hk hca hcb hok hsz hx0
            go_enter Try.func23, Try.ntmps23
            go_wp2_with (first | (go_at_call 14; refine HWO.out.mono ?_; rintro e w1 ⟨rfl, b1⟩; have B1 := hide b1; have hx0 := below_cell b1 hgb HX0.out; clear b1) | (go_at_call 33; refine (HNA.out _ B1.out).mono ?_; rintro e w2 ⟨rfl, b2⟩; have B2 := hide b2; clear b2) | (go_at_call 33; refine (HNB.out _ (B1.out.trans (B2.out.mono B1.out.size))).mono ?_; rintro e w3 ⟨rfl, b3⟩; have B3 := hide b3; clear b3))
            have HB0 : Hid (Below w.heap.size w w3) := hide ((B1.out.trans (B2.out.mono B1.out.size)).trans (B3.out.mono (B1.out.trans (B2.out.mono B1.out.size)).size))
            clear hx0
            go_loopw [52] (fun i w' => ∃ y : Nat, y ≤ R ∧ i = .int .i64 y ∧ (∀ t x, t < y → x < C → prC (f t x) (g t x - A t - B x) = true) ∧ Below w.heap.size w w') (fun i _ => R - (intOf i).toNat)
            case atStart => exact ⟨0, by omega, rfl, fun t x h => absurd h (Nat.not_lt_zero _), HB0.out⟩
            case round =>
              clear HB0
              obtain ⟨y, hy, rfl, hall, hb⟩ := hrel
              have HBB := hide hb; have HALL := hide hall
              clear hb hall
              by_cases hlt : y < R
              · have hyI : (y : Int) < R := by omega
                obtain ⟨g', o', c', hx, hg', hcc⟩ := HM.out y hlt
                have hx := below_cell HBB.out hgb hx
                have HCC := hide hcc
                clear hcc
                obtain ⟨wo, rfl⟩ : ∃ wo : World, wo = wr := ⟨_, rfl⟩
                go_wp2
                go_loopw [59] (fun i w' => ∃ x : Nat, x ≤ C ∧ i = .int .i64 x ∧ (∀ t, t < x → prC (f y t) (g y t - A y - B t) = true) ∧ Below w.heap.size w w') (fun i _ => C - (intOf i).toNat)
                case atStart => exact ⟨0, by omega, rfl, fun t h => absurd h (Nat.not_lt_zero _), HBB.out⟩
                case round =>
                  clear HBB hx
                  obtain ⟨x, hxx, rfl, hall, hb⟩ := hrel
                  have HBB := hide hb; have HIN := hide hall
                  clear hb hall
                  by_cases hlx : x < C
                  · have hxI : (x : Int) < C := by omega
                    have hz := below_cell HBB.out hg' (HCC.out x hlx)
                    obtain ⟨g2, o2, c2, hx2, hg2, hc2⟩ := HK.out y hlt
                    have hx2 := below_cell HBB.out hga hx2
                    have hz2 := below_cell HBB.out hg2 (hc2 x hlx)
                    have hza := below_cell HBB.out hgp (HPA.out y hlt)
                    have hzb := below_cell HBB.out hgq (HPB.out x hlx)
                    have b1 := HW.out.lo y x hlt hlx
                    have b2 := HW.out.hi y x hlt hlx
                    obtain ⟨b3, b4⟩ := HBA.out y hlt
                    obtain ⟨b5, b6⟩ := HBB2.out x hlx
                    have h01 := HI.out.cell y x hlt hlx
                    have HNO := hide (fun h => prB_no (g := g) (f := f) (a := A) (b := B) hlt hlx h)
                    obtain ⟨Z, hZ⟩ : ∃ Z : Prop, Z = ∀ t, t < x + 1 → prC (f y t) (g y t - A y - B t) = true := ⟨_, rfl⟩
                    have HZZ := hide hZ
                    have HST := hide (show prC (f y x) (g y x - A y - B x) = true → Z from fun h => by
                      rw [hZ]
                      intro t ht
                      by_cases e : t = x
                      · subst e; exact h
                      · exact HIN.out t (by omega))
                    clear hZ
                    clear hc2
                    obtain ⟨s, hs⟩ : ∃ s, s = f y x := ⟨_, rfl⟩
                    obtain ⟨t, ht⟩ : ∃ t, t = g y x := ⟨_, rfl⟩
                    obtain ⟨p, hp⟩ : ∃ p, p = A y := ⟨_, rfl⟩
                    obtain ⟨q, hq⟩ : ∃ q, q = B x := ⟨_, rfl⟩
                    rw [← hs, ← ht, ← hp, ← hq] at HNO HST
                    rw [← hs] at hz h01
                    rw [← ht] at hz2 b1 b2
                    rw [← hp] at hza b3 b4
                    rw [← hq] at hzb b5 b6
                    clear hs ht hp hq
                    rcases h01 with rfl | rfl
                    · by_cases hd : t - p - q > 0
                      · have HF := hide (HNO.out (by unfold prC; rw [decide_eq_true hd]; rfl))
                        clear HNO HST
                        go_wp2
                        go_quiet (fail)
                        go_wp2
                        go_ret
                        exact ⟨ret_bool HF.out.symm, below_draws HBB.out _⟩
                      · have HS2 := hide (HST.out (by unfold prC; rw [decide_eq_false hd]; rfl))
                        clear HNO HST
                        go_wp2
                        go_quiet (fail)
                        go_wp2
                        go_roundw
                        case rel => exact ⟨x + 1, by omega, by go_num, HZZ.out.mp HS2.out, below_draws HBB.out _⟩
                        case measure => simp [intOf]; omega
                    · by_cases hd : t - p - q < 0
                      · have HF := hide (HNO.out (by unfold prC; rw [decide_eq_true hd]; rfl))
                        clear HNO HST
                        go_wp2
                        go_quiet (fail)
                        go_wp2
                        go_ret
                        exact ⟨ret_bool HF.out.symm, below_draws HBB.out _⟩
                      · have HS2 := hide (HST.out (by unfold prC; rw [decide_eq_false hd]; rfl))
                        clear HNO HST
                        go_wp2
                        go_quiet (fail)
                        go_wp2
                        go_roundw
                        case rel => exact ⟨x + 1, by omega, by go_num, HZZ.out.mp HS2.out, below_draws HBB.out _⟩
                        case measure => simp [intOf]; omega
                  · obtain rfl : x = C := by omega
                    have HST := hide (show ∀ t z, t < y + 1 → z < x → prC (f t z) (g t z - A t - B z) = true from fun t z h1 h2 => by
                      by_cases e : t = y
                      · subst e; exact HIN.out z h2
                      · exact HALL.out t z (by omega) h2)
                    go_wp2
                    go_roundw
                    case rel => exact ⟨y + 1, by omega, by go_num, HST.out, HBB.out⟩
                    case measure => simp [intOf]; omega
              · obtain rfl : y = R := by omega
                have HF := hide (prB_yes (g := g) (f := f) (a := A) (b := B) fun t x h1 h2 => HALL.out t x h1 h2)
                go_wp2
                go_ret
                exact ⟨ret_bool HF.out.symm, HBB.out⟩
      · have hne : ((b.length : Int) != (C : Int)) = true := by simp; omega
        rw [show (b.length == C) = false from beq_eq_false_iff_ne.2 h2, Bool.false_and, Bool.false_and, Bool.false_and]
        rw [h1] at HNA hma ⊢
        rw [← hlb] at HNB hmb hne ⊢
        clear h2 hlb
        clear hx hg h HP hk2 hkm hWt hI hm hk hca hcb hok hsz hx0
        go_enter Try.func23, Try.ntmps23
        go_wp2_with (first | (go_at_call 14; refine HWO.out.mono ?_; rintro e w1 ⟨rfl, b1⟩; have B1 := hide b1; have hx0 := below_cell b1 hgb HX0.out; clear b1))
        go_ret
        exact ⟨rfl, B1.out⟩
    · have hne : ((a.length : Int) != (R : Int)) = true := by simp; omega
      rw [show (a.length == R) = false from beq_eq_false_iff_ne.2 h1, Bool.false_and, Bool.false_and, Bool.false_and, Bool.false_and]
      rw [← hla] at HNA hma hne ⊢
      rw [← hlb] at HNB hmb ⊢
      clear h1 hla hlb
      clear hx hg h HP hk2 hkm hWt hI hm hk hca hcb hok hsz hx0
      go_enter Try.func23, Try.ntmps23
      go_wp2_with (first | (go_at_call 14; refine HWO.out.mono ?_; rintro e w1 ⟨rfl, b1⟩; have B1 := hide b1; have hx0 := below_cell b1 hgb HX0.out; clear b1))
      go_ret
      exact ⟨rfl, B1.out⟩

set_option maxRecDepth 100000 in
set_option maxHeartbeats 2000000 in
theorem specPricesOk_any (vk vm va vb : Value) (k m : List (List Int)) (a b : List Int) (w : World) (hk : InMat w vk k) (hm : InMat w vm m) (ha : InRow w va a) (hb : InRow w vb b) :
    Calls Try.prog 22 #[vk, vm, va, vb] w fun e w' => e = .returned (.bool (prOkB k m a b)) ∧ Below w.heap.size w w' := by
  have HWO := hide (specWeightOf_any vk vm k m w hk hm)
  cases h : wtOfB k m with
  | false =>
    rw [h] at HWO
    have HF : Hid (prOkB k m a b = false) := hide (by simp only [prOkB, h, Bool.false_and])
    rw [HF.out]
    obtain ⟨x, hx⟩ : ∃ x, x = wtOf k m := ⟨_, rfl⟩
    rw [← hx] at HWO
    obtain ⟨ak, ck, rfl, -, -⟩ := hk
    obtain ⟨am, cm, rfl, -, -⟩ := hm
    obtain ⟨aa, ca, rfl, -, -⟩ := ha
    obtain ⟨ab, cb, rfl, -, -⟩ := hb
    generalize k.length = n1 at *
    generalize m.length = n2 at *
    generalize a.length = n3 at *
    generalize b.length = n4 at *
    clear hx h HF
    go_enter Try.func22, Try.ntmps22
    go_wp2_with (go_at_call 13; refine HWO.out.mono ?_; rintro e w1 ⟨rfl, rfl⟩)
    go_ret
    exact ⟨rfl, Below.refl _ _⟩
  | true =>
    rw [h] at HWO
    have hok : okB m = true := by unfold wtOfB at h; rw [Bool.and_eq_true] at h; exact h.1
    obtain ⟨R, C, f, rfl, hI⟩ := ok_img hok
    have hR1 := hI.r1; have hC1 := hI.c1; have hR := hI.r2; have hC := hI.c2
    have hsz : sizeB k R C (-100) 100 = true := by
      unfold wtOfB at h
      rw [Bool.and_eq_true, mkM_len, width_mkM hR1] at h
      exact wtB_nat h.2
    obtain ⟨hkm, hWt⟩ := sizeB_wt hsz
    have HP : Hid (prOkB k (mkM R C f) a b = ((a.length == R) && (b.length == C) && within a 1000 && within b 1000 && prB R C (cellM k) f (fun y => a.getD y 0) (fun x => b.getD x 0))) := hide (by
      rw [prOkB, h, Bool.true_and, mkM_len, width_mkM hR1, prB_congr (fun _ _ _ _ => rfl) fun y x hy hx => cell_mk R C f hy hx])
    rw [HP.out]
    obtain ⟨x, hx⟩ : ∃ x, x = wtOf k (mkM R C f) := ⟨_, rfl⟩
    rw [← hx] at HWO
    have hk2 := hk
    rw [hkm] at hk2
    obtain ⟨g, hg⟩ : ∃ g, g = cellM k := ⟨_, rfl⟩
    rw [← hg] at hk2 hWt ⊢
    obtain ⟨ga, oa, ca, hvk, hga, hca⟩ := inMat_img hk2 (by omega) (by omega)
    obtain ⟨gb, ob, cb, hvm, hgb, hcb⟩ := inMat_img hm (by omega) (by omega)
    subst hvk hvm
    obtain ⟨g0, o0, c0, hx0, hg0, -⟩ := hcb 0 (by omega)
    rw [Nat.add_zero] at hx0
    have HK := hide hca; have HM := hide hcb; have HI := hide hI; have HW := hide hWt
    have HX0 := hide hx0
    obtain ⟨aa, cca, rfl, hma, hpa⟩ := ha
    obtain ⟨ab, ccb, rfl, hmb, hpb⟩ := hb
    unfold maxLen at hma hmb
    have HNA := hide (l09Prices_any (.slice aa a.length cca) a R w (by omega) ⟨aa, cca, rfl, by unfold maxLen; exact hma, hpa⟩)
    have HNB := hide (l09Prices_any (.slice ab b.length ccb) b C w (by omega) ⟨ab, ccb, rfl, by unfold maxLen; exact hmb, hpb⟩)
    obtain ⟨la, hla⟩ : ∃ la, la = a.length := ⟨_, rfl⟩
    obtain ⟨lb, hlb⟩ : ∃ lb, lb = b.length := ⟨_, rfl⟩
    have HQ : Hid (((a.length == R) && (b.length == C) && within a 1000 && within b 1000 && prB R C g f (fun y => a.getD y 0) (fun x => b.getD x 0)) = ((a.length == R && within a 1000) && (b.length == C && within b 1000) && prB R C g f (fun y => a.getD y 0) (fun x => b.getD x 0))) := hide (by
      cases (a.length == R) <;> cases (b.length == C) <;> cases within a 1000 <;> simp)
    rw [HQ.out]
    cases h3 : (a.length == R && within a 1000) with
    | false =>
      rw [h3] at HNA
      rw [Bool.false_and, Bool.false_and]
      rw [← hla] at HNA hma ⊢
      rw [← hlb] at HNB hmb ⊢
      clear HQ h3 hla hlb
      clear hx hg h HP hk2 hkm hWt hI hm hk hca hcb hok hsz
      go_enter Try.func22, Try.ntmps22
      go_wp2_with (first | (go_at_call 13; refine HWO.out.mono ?_; rintro e w1 ⟨rfl, rfl⟩) | (go_at_call 43; with_reducible refine HNA.out.mono ?_; rintro e w2 ⟨rfl, rfl⟩) | (go_at_call 43; with_reducible refine HNB.out.mono ?_; rintro e w3 ⟨rfl, rfl⟩))
      go_ret
      exact ⟨rfl, Below.refl _ _⟩
    | true =>
      rw [h3] at HNA
      rw [Bool.true_and]
      cases h4 : (b.length == C && within b 1000) with
      | false =>
        rw [h4] at HNB
        rw [Bool.false_and]
        rw [← hla] at HNA hma ⊢
        rw [← hlb] at HNB hmb ⊢
        clear HQ h3 h4 hla hlb
        clear hx hg h HP hk2 hkm hWt hI hm hk hca hcb hok hsz
        go_enter Try.func22, Try.ntmps22
        go_wp2_with (first | (go_at_call 13; refine HWO.out.mono ?_; rintro e w1 ⟨rfl, rfl⟩) | (go_at_call 43; with_reducible refine HNA.out.mono ?_; rintro e w2 ⟨rfl, rfl⟩) | (go_at_call 43; with_reducible refine HNB.out.mono ?_; rintro e w3 ⟨rfl, rfl⟩))
        go_ret
        exact ⟨rfl, Below.refl _ _⟩
      | true =>
        rw [h4] at HNB
        rw [Bool.true_and]
        rw [Bool.and_eq_true, beq_iff_eq] at h3 h4
        obtain ⟨h1, h3⟩ := h3
        obtain ⟨h2, h4⟩ := h4
        obtain ⟨gp, op, rfl, hgp, hcp⟩ := hpa.resolve_left (by omega)
        obtain ⟨gq, oq, rfl, hgq, hcq⟩ := hpb.resolve_left (by omega)
        have HPA : Hid (∀ y, y < R → w.cell? ⟨gp, op + y, none⟩ = some (.int .i64 (a.getD y 0))) := hide fun y hy => by
          rw [hcp y (by omega), getD_at]
        have HPB : Hid (∀ y, y < C → w.cell? ⟨gq, oq + y, none⟩ = some (.int .i64 (b.getD y 0))) := hide fun y hy => by
          rw [hcq y (by omega), getD_at]
        have HBA : Hid (∀ y, y < R → -1000 ≤ a.getD y 0 ∧ a.getD y 0 ≤ 1000) := hide fun y hy => within_at h3 (by omega)
        have HBB2 : Hid (∀ y, y < C → -1000 ≤ b.getD y 0 ∧ b.getD y 0 ≤ 1000) := hide fun y hy => within_at h4 (by omega)
        rw [h1] at HNA hma ⊢
        rw [h2] at HNB hmb ⊢
        obtain ⟨A, hA⟩ : ∃ A : Nat → Int, A = fun y => a.getD y 0 := ⟨_, rfl⟩
        obtain ⟨B, hB⟩ : ∃ B : Nat → Int, B = fun y => b.getD y 0 := ⟨_, rfl⟩
        replace HPA : Hid (∀ y, y < R → w.cell? ⟨gp, op + y, none⟩ = some (.int .i64 (A y))) := hide fun y hy => by rw [hA]; exact HPA.out y hy
        replace HPB : Hid (∀ y, y < C → w.cell? ⟨gq, oq + y, none⟩ = some (.int .i64 (B y))) := hide fun y hy => by rw [hB]; exact HPB.out y hy
        replace HBA : Hid (∀ y, y < R → -1000 ≤ A y ∧ A y ≤ 1000) := hide fun y hy => by rw [hA]; exact HBA.out y hy
        replace HBB2 : Hid (∀ y, y < C → -1000 ≤ B y ∧ B y ≤ 1000) := hide fun y hy => by rw [hB]; exact HBB2.out y hy
        rw [← hA, ← hB]
        clear h1 h2 h3 h4 hA hB hpa hpb hcp hcq hla hlb
        clear hx hg h HP hk2 hkm hWt hI hm hk hca hcb hok hsz HQ
        go_enter Try.func22, Try.ntmps22
        go_wp2_with (first | (go_at_call 13; refine HWO.out.mono ?_; rintro e w1 ⟨rfl, rfl⟩) | (go_at_call 43; with_reducible refine HNA.out.mono ?_; rintro e w2 ⟨rfl, rfl⟩) | (go_at_call 43; with_reducible refine HNB.out.mono ?_; rintro e w3 ⟨rfl, rfl⟩))
        have HB0 : Hid (Below w.heap.size w w) := hide (Below.refl _ _)
        clear hx0
        go_loopw [42] (fun i w' => ∃ y : Nat, y ≤ R ∧ i = .int .i64 y ∧ (∀ t x, t < y → x < C → prC (f t x) (g t x - A t - B x) = true) ∧ Below w.heap.size w w') (fun i _ => R - (intOf i).toNat)
        case atStart => exact ⟨0, by omega, rfl, fun t x h => absurd h (Nat.not_lt_zero _), HB0.out⟩
        case round =>
          clear HB0
          obtain ⟨y, hy, rfl, hall, hb⟩ := hrel
          have HBB := hide hb; have HALL := hide hall
          clear hb hall
          by_cases hlt : y < R
          · have hyI : (y : Int) < R := by omega
            obtain ⟨g', o', c', hx, hg', hcc⟩ := HM.out y hlt
            have hx := below_cell HBB.out hgb hx
            have HCC := hide hcc
            clear hcc
            obtain ⟨wo, rfl⟩ : ∃ wo : World, wo = wr := ⟨_, rfl⟩
            go_wp2
            go_loopw [49] (fun i w' => ∃ x : Nat, x ≤ C ∧ i = .int .i64 x ∧ (∀ t, t < x → prC (f y t) (g y t - A y - B t) = true) ∧ Below w.heap.size w w') (fun i _ => C - (intOf i).toNat)
            case atStart => exact ⟨0, by omega, rfl, fun t h => absurd h (Nat.not_lt_zero _), HBB.out⟩
            case round =>
              clear HBB hx
              obtain ⟨x, hxx, rfl, hall, hb⟩ := hrel
              have HBB := hide hb; have HIN := hide hall
              clear hb hall
              by_cases hlx : x < C
              · have hxI : (x : Int) < C := by omega
                have hz := below_cell HBB.out hg' (HCC.out x hlx)
                obtain ⟨g2, o2, c2, hx2, hg2, hc2⟩ := HK.out y hlt
                have hx2 := below_cell HBB.out hga hx2
                have hz2 := below_cell HBB.out hg2 (hc2 x hlx)
                have hza := below_cell HBB.out hgp (HPA.out y hlt)
                have hzb := below_cell HBB.out hgq (HPB.out x hlx)
                have b1 := HW.out.lo y x hlt hlx
                have b2 := HW.out.hi y x hlt hlx
                obtain ⟨b3, b4⟩ := HBA.out y hlt
                obtain ⟨b5, b6⟩ := HBB2.out x hlx
                have h01 := HI.out.cell y x hlt hlx
                have HNO := hide (fun h => prB_no (g := g) (f := f) (a := A) (b := B) hlt hlx h)
                obtain ⟨Z, hZ⟩ : ∃ Z : Prop, Z = ∀ t, t < x + 1 → prC (f y t) (g y t - A y - B t) = true := ⟨_, rfl⟩
                have HZZ := hide hZ
                have HST := hide (show prC (f y x) (g y x - A y - B x) = true → Z from fun h => by
                  rw [hZ]
                  intro t ht
                  by_cases e : t = x
                  · subst e; exact h
                  · exact HIN.out t (by omega))
                clear hZ
                clear hc2
                obtain ⟨s, hs⟩ : ∃ s, s = f y x := ⟨_, rfl⟩
                obtain ⟨t, ht⟩ : ∃ t, t = g y x := ⟨_, rfl⟩
                obtain ⟨p, hp⟩ : ∃ p, p = A y := ⟨_, rfl⟩
                obtain ⟨q, hq⟩ : ∃ q, q = B x := ⟨_, rfl⟩
                rw [← hs, ← ht, ← hp, ← hq] at HNO HST
                rw [← hs] at hz h01
                rw [← ht] at hz2 b1 b2
                rw [← hp] at hza b3 b4
                rw [← hq] at hzb b5 b6
                clear hs ht hp hq
                rcases h01 with rfl | rfl
                · by_cases hd : t - p - q > 0
                  · have HF := hide (HNO.out (by unfold prC; rw [decide_eq_true hd]; rfl))
                    clear HNO HST
                    go_wp2
                    go_quiet (fail)
                    go_wp2
                    go_ret
                    exact ⟨ret_bool HF.out.symm, below_draws HBB.out _⟩
                  · have HS2 := hide (HST.out (by unfold prC; rw [decide_eq_false hd]; rfl))
                    clear HNO HST
                    go_wp2
                    go_quiet (fail)
                    go_wp2
                    go_roundw
                    case rel => exact ⟨x + 1, by omega, by go_num, HZZ.out.mp HS2.out, below_draws HBB.out _⟩
                    case measure => simp [intOf]; omega
                · by_cases hd : t - p - q < 0
                  · have HF := hide (HNO.out (by unfold prC; rw [decide_eq_true hd]; rfl))
                    clear HNO HST
                    go_wp2
                    go_quiet (fail)
                    go_wp2
                    go_ret
                    exact ⟨ret_bool HF.out.symm, below_draws HBB.out _⟩
                  · have HS2 := hide (HST.out (by unfold prC; rw [decide_eq_false hd]; rfl))
                    clear HNO HST
                    go_wp2
                    go_quiet (fail)
                    go_wp2
                    go_roundw
                    case rel => exact ⟨x + 1, by omega, by go_num, HZZ.out.mp HS2.out, below_draws HBB.out _⟩
                    case measure => simp [intOf]; omega
              · obtain rfl : x = C := by omega
                have HST := hide (show ∀ t z, t < y + 1 → z < x → prC (f t z) (g t z - A t - B z) = true from fun t z h1 h2 => by
                  by_cases e : t = y
                  · subst e; exact HIN.out z h2
                  · exact HALL.out t z (by omega) h2)
                go_wp2
                go_roundw
                case rel => exact ⟨y + 1, by omega, by go_num, HST.out, HBB.out⟩
                case measure => simp [intOf]; omega
          · obtain rfl : y = R := by omega
            have HF := hide (prB_yes (g := g) (f := f) (a := A) (b := B) fun t x h1 h2 => HALL.out t x h1 h2)
            go_wp2
            go_ret
            exact ⟨ret_bool HF.out.symm, HBB.out⟩
end Go.Proofs.Ytldbgkmgmhlbiaa
/-
  The exact laws on WeightOk, WeightOf and PricesOk, walked.
-/
namespace Go.Proofs.Ytldbgkmgmhlbiaa
open Go.RowKit
set_option linter.unusedVariables false

set_option maxRecDepth 100000 in
set_option maxHeartbeats 4000000 in
theorem lawWeightOk_gen (a0 : Option Addr) (n0 c0 : Nat) (m0 : List (List Int)) (x1 : Int) (x2 : Int) (w : World) (hin0 : InMat w (.slice a0 n0 c0) m0) (_ : (Lit.int .i64 x1).wf = true) (_ : (Lit.int .i64 x2).wf = true) (v_0 : Bool) 
    (hs : ∀ (v0 : Value) (w : World), InMat w v0 m0 → Calls Try.prog 9 #[v0, .int .i64 x1, .int .i64 x2] w (fun e w' => e = .returned (.bool v_0) ∧ Below w.heap.size w w'))
    (hi : ∀ (v0 : Value) (w : World), InMat w v0 m0 → Calls Try.prog 11 #[v0, .int .i64 x1, .int .i64 x2] w (fun e w' => e = .returned (.bool v_0) ∧ Below w.heap.size w w')) :
    Calls Try.prog 3 #[.slice a0 n0 c0, .int .i64 x1, .int .i64 x2] w fun e w' => e = .returned (.bool true) ∧ Below w.heap.size w w' := by
  have HI0 := hide hin0
  obtain ⟨a', c', he, hm0, -⟩ := hin0
  cases he
  unfold maxLen at hm0
  have hbb0 : (v_0 != v_0) = false := by cases v_0 <;> rfl
  go_enter Try.func3, Try.ntmps3
  go_wp2_with fail
  refine (szIntSS_any _ m0 (1048576) _ (by omega) HI0.out).mono ?_
  rintro e w1 ⟨q0, rfl, hq0, hb⟩
  have HB1 := hide (hb)
  have s1 := hb.size
  clear hb
  rcases hq0 with rfl | ⟨hsz0, rfl⟩
  · go_wp2
    go_ret
    exact ⟨rfl, HB1.out⟩
  · skip
    have HZ0 : Hid (m0.length + cellsM m0 ≤ 1048576) := hide (by omega)
    have HS := hide (hs); have HM := hide (hi)
    clear hs hi
    go_wp2_with fail
    refine (toIntSS_any _ m0 _ (by have := HZ0.out; omega) (inMat_below HI0.out HB1.out)).mono ?_
    rintro e w2 ⟨p0, rfl, ho, hb⟩
    have P0_2 := hide (ho)
    have HB2 := hide (HB1.out.trans (hb.mono HB1.out.size))
    have s2 := hb.size
    clear ho hb
    go_wp2_with fail
    refine (HS.out p0 _ (inMat_own P0_2.out)).mono ?_
    rintro e w3 ⟨rfl, hb⟩
    have HB3 := hide (HB2.out.trans (hb.mono HB2.out.size))
    have s3 := hb.size
    clear hb
    go_wp2_with fail
    refine (toIntSS_any _ m0 _ (by have := HZ0.out; omega) (inMat_below HI0.out HB3.out)).mono ?_
    rintro e w4 ⟨x0, rfl, ho, hb⟩
    have X0_4 := hide (ho)
    have HB4 := hide (HB3.out.trans (hb.mono HB3.out.size))
    have s4 := hb.size
    clear ho hb
    go_wp2_with fail
    refine (HM.out x0 _ (inMat_own X0_4.out)).mono ?_
    rintro e w5 ⟨rfl, hb⟩
    have X0_5 := hide (ownMat_below X0_4.out hb)
    have HB5 := hide (HB4.out.trans (hb.mono HB4.out.size))
    have s5 := hb.size
    clear hb
    go_wp2_with fail
    refine (toIntSS_any _ m0 _ (by have := HZ0.out; omega) (inMat_below HI0.out HB5.out)).mono ?_
    rintro e w6 ⟨z0, rfl, ho, hb⟩
    have X0_6 := hide (ownMat_below X0_5.out hb)
    have Z0_6 := hide (ho)
    have HB6 := hide (HB5.out.trans (hb.mono HB5.out.size))
    have s6 := hb.size
    clear ho hb
    go_wp2_with fail
    refine (eqIntSS_same x0 z0 m0 _ (inMat_own X0_6.out) (inMat_own Z0_6.out)).mono ?_
    rintro e w7 ⟨rfl, hb⟩
    have X0_7 := hide (ownMat_below X0_6.out hb)
    have HB7 := hide (HB6.out.trans (hb.mono HB6.out.size))
    have s7 := hb.size
    clear hb
    go_wp2
    go_ret
    exact ⟨rfl, HB7.out⟩

set_option maxRecDepth 100000 in
set_option maxHeartbeats 4000000 in
theorem lawWeightOf_gen (a0 : Option Addr) (n0 c0 : Nat) (m0 : List (List Int)) (a1 : Option Addr) (n1 c1 : Nat) (m1 : List (List Int)) (w : World) (hin0 : InMat w (.slice a0 n0 c0) m0) (hin1 : InMat w (.slice a1 n1 c1) m1) (v_0 : Int) (b_1 : Bool) 
    (hs : ∀ (v0 v1 : Value) (w : World), InMat w v0 m0 → InMat w v1 m1 → Calls Try.prog 13 #[v0, v1] w (fun e w' => e = .returned (.tuple #[.int .i64 v_0, .bool b_1]) ∧ Below w.heap.size w w'))
    (hi : ∀ (v0 v1 : Value) (w : World), InMat w v0 m0 → InMat w v1 m1 → Calls Try.prog 14 #[v0, v1] w (fun e w' => e = .returned (.tuple #[.int .i64 v_0, .bool b_1]) ∧ Below w.heap.size w w')) :
    Calls Try.prog 4 #[.slice a0 n0 c0, .slice a1 n1 c1] w fun e w' => e = .returned (.bool true) ∧ Below w.heap.size w w' := by
  have HI0 := hide hin0
  obtain ⟨a', c', he, hm0, -⟩ := hin0
  cases he
  unfold maxLen at hm0
  have HI1 := hide hin1
  obtain ⟨a', c', he, hm1, -⟩ := hin1
  cases he
  unfold maxLen at hm1
  have hbb1 : (b_1 != b_1) = false := by cases b_1 <;> rfl
  go_enter Try.func4, Try.ntmps4
  go_wp2_with fail
  refine (szIntSS_any _ m0 (1048576) _ (by omega) HI0.out).mono ?_
  rintro e w1 ⟨q0, rfl, hq0, hb⟩
  have HB1 := hide (hb)
  have s1 := hb.size
  clear hb
  rcases hq0 with rfl | ⟨hsz0, rfl⟩
  · go_wp2
    go_ret
    exact ⟨rfl, HB1.out⟩
  · skip
    have HZ0 : Hid (m0.length + cellsM m0 ≤ 1048576) := hide (by omega)
    go_wp2_with fail
    refine (szIntSS_any _ m1 (1048576 - m0.length - cellsM m0) _ (by omega) (inMat_below HI1.out HB1.out)).mono ?_
    rintro e w2 ⟨q1, rfl, hq1, hb⟩
    have HB2 := hide (HB1.out.trans (hb.mono HB1.out.size))
    have s2 := hb.size
    clear hb
    rcases hq1 with rfl | ⟨hsz1, rfl⟩
    · go_wp2
      go_ret
      exact ⟨rfl, HB2.out⟩
    · skip
      have HZ1 : Hid (m1.length + cellsM m1 ≤ 1048576) := hide (by omega)
      have HS := hide (hs); have HM := hide (hi)
      clear hs hi
      go_wp2_with fail
      refine (toIntSS_any _ m0 _ (by have := HZ0.out; omega) (inMat_below HI0.out HB2.out)).mono ?_
      rintro e w3 ⟨p0, rfl, ho, hb⟩
      have P0_3 := hide (ho)
      have HB3 := hide (HB2.out.trans (hb.mono HB2.out.size))
      have s3 := hb.size
      clear ho hb
      go_wp2_with fail
      refine (toIntSS_any _ m1 _ (by have := HZ1.out; omega) (inMat_below HI1.out HB3.out)).mono ?_
      rintro e w4 ⟨p1, rfl, ho, hb⟩
      have P0_4 := hide (ownMat_below P0_3.out hb)
      have P1_4 := hide (ho)
      have HB4 := hide (HB3.out.trans (hb.mono HB3.out.size))
      have s4 := hb.size
      clear ho hb
      go_wp2_with fail
      refine (HS.out p0 p1 _ (inMat_own P0_4.out) (inMat_own P1_4.out)).mono ?_
      rintro e w5 ⟨rfl, hb⟩
      have HB5 := hide (HB4.out.trans (hb.mono HB4.out.size))
      have s5 := hb.size
      clear hb
      go_wp2_with fail
      refine (toIntSS_any _ m0 _ (by have := HZ0.out; omega) (inMat_below HI0.out HB5.out)).mono ?_
      rintro e w6 ⟨x0, rfl, ho, hb⟩
      have X0_6 := hide (ho)
      have HB6 := hide (HB5.out.trans (hb.mono HB5.out.size))
      have s6 := hb.size
      clear ho hb
      go_wp2_with fail
      refine (toIntSS_any _ m1 _ (by have := HZ1.out; omega) (inMat_below HI1.out HB6.out)).mono ?_
      rintro e w7 ⟨x1, rfl, ho, hb⟩
      have X0_7 := hide (ownMat_below X0_6.out hb)
      have X1_7 := hide (ho)
      have HB7 := hide (HB6.out.trans (hb.mono HB6.out.size))
      have s7 := hb.size
      clear ho hb
      go_wp2_with fail
      refine (HM.out x0 x1 _ (inMat_own X0_7.out) (inMat_own X1_7.out)).mono ?_
      rintro e w8 ⟨rfl, hb⟩
      have X0_8 := hide (ownMat_below X0_7.out hb)
      have X1_8 := hide (ownMat_below X1_7.out hb)
      have HB8 := hide (HB7.out.trans (hb.mono HB7.out.size))
      have s8 := hb.size
      clear hb
      go_wp2_with fail
      refine (toIntSS_any _ m0 _ (by have := HZ0.out; omega) (inMat_below HI0.out HB8.out)).mono ?_
      rintro e w9 ⟨z0, rfl, ho, hb⟩
      have X0_9 := hide (ownMat_below X0_8.out hb)
      have X1_9 := hide (ownMat_below X1_8.out hb)
      have Z0_9 := hide (ho)
      have HB9 := hide (HB8.out.trans (hb.mono HB8.out.size))
      have s9 := hb.size
      clear ho hb
      go_wp2_with fail
      refine (eqIntSS_same x0 z0 m0 _ (inMat_own X0_9.out) (inMat_own Z0_9.out)).mono ?_
      rintro e w10 ⟨rfl, hb⟩
      have X0_10 := hide (ownMat_below X0_9.out hb)
      have X1_10 := hide (ownMat_below X1_9.out hb)
      have HB10 := hide (HB9.out.trans (hb.mono HB9.out.size))
      have s10 := hb.size
      clear hb
      go_wp2_with fail
      refine (toIntSS_any _ m1 _ (by have := HZ1.out; omega) (inMat_below HI1.out HB10.out)).mono ?_
      rintro e w11 ⟨z1, rfl, ho, hb⟩
      have X0_11 := hide (ownMat_below X0_10.out hb)
      have X1_11 := hide (ownMat_below X1_10.out hb)
      have Z1_11 := hide (ho)
      have HB11 := hide (HB10.out.trans (hb.mono HB10.out.size))
      have s11 := hb.size
      clear ho hb
      go_wp2_with fail
      refine (eqIntSS_same x1 z1 m1 _ (inMat_own X1_11.out) (inMat_own Z1_11.out)).mono ?_
      rintro e w12 ⟨rfl, hb⟩
      have X0_12 := hide (ownMat_below X0_11.out hb)
      have X1_12 := hide (ownMat_below X1_11.out hb)
      have HB12 := hide (HB11.out.trans (hb.mono HB11.out.size))
      have s12 := hb.size
      clear hb
      go_wp2
      go_ret
      exact ⟨rfl, HB12.out⟩

set_option maxRecDepth 100000 in
set_option maxHeartbeats 4000000 in
theorem lawPricesOk_gen (a0 : Option Addr) (n0 c0 : Nat) (m0 : List (List Int)) (a1 : Option Addr) (n1 c1 : Nat) (m1 : List (List Int)) (a2 : Option Addr) (n2 c2 : Nat) (r2 : List Int) (a3 : Option Addr) (n3 c3 : Nat) (r3 : List Int) (w : World) (hin0 : InMat w (.slice a0 n0 c0) m0) (hin1 : InMat w (.slice a1 n1 c1) m1) (hin2 : InRow w (.slice a2 n2 c2) r2) (hin3 : InRow w (.slice a3 n3 c3) r3) (v_0 : Bool) 
    (hs : ∀ (v0 v1 v2 v3 : Value) (w : World), InMat w v0 m0 → InMat w v1 m1 → InRow w v2 r2 → InRow w v3 r3 → Calls Try.prog 22 #[v0, v1, v2, v3] w (fun e w' => e = .returned (.bool v_0) ∧ Below w.heap.size w w'))
    (hi : ∀ (v0 v1 v2 v3 : Value) (w : World), InMat w v0 m0 → InMat w v1 m1 → InRow w v2 r2 → InRow w v3 r3 → Calls Try.prog 23 #[v0, v1, v2, v3] w (fun e w' => e = .returned (.bool v_0) ∧ Below w.heap.size w w')) :
    Calls Try.prog 6 #[.slice a0 n0 c0, .slice a1 n1 c1, .slice a2 n2 c2, .slice a3 n3 c3] w fun e w' => e = .returned (.bool true) ∧ Below w.heap.size w w' := by
  have HI0 := hide hin0
  obtain ⟨a', c', he, hm0, -⟩ := hin0
  cases he
  unfold maxLen at hm0
  have HI1 := hide hin1
  obtain ⟨a', c', he, hm1, -⟩ := hin1
  cases he
  unfold maxLen at hm1
  have HI2 := hide hin2
  obtain ⟨a', c', he, hm2, -⟩ := hin2
  cases he
  unfold maxLen at hm2
  have HI3 := hide hin3
  obtain ⟨a', c', he, hm3, -⟩ := hin3
  cases he
  unfold maxLen at hm3
  by_cases hr2 : 1048576 < r2.length
  · clear hs hi
    obtain ⟨R0, hR0⟩ : ∃ x, x = m0.length := ⟨_, rfl⟩
    obtain ⟨R1, hR1⟩ : ∃ x, x = m1.length := ⟨_, rfl⟩
    obtain ⟨R2, hR2⟩ : ∃ x, x = r2.length := ⟨_, rfl⟩
    obtain ⟨R3, hR3⟩ : ∃ x, x = r3.length := ⟨_, rfl⟩
    rw [← hR0] at HI0 hm0 ⊢
    rw [← hR1] at HI1 hm1 ⊢
    rw [← hR2] at HI2 hm2 hr2 ⊢
    rw [← hR3] at HI3 hm3 ⊢
    clear hR0 hR1 hR2 hR3
    go_enter Try.func6, Try.ntmps6
    go_wp2
    go_ret
    exact ⟨rfl, Below.refl _ _⟩
  · by_cases hr3 : 1048576 < r3.length
    · clear hs hi
      obtain ⟨R0, hR0⟩ : ∃ x, x = m0.length := ⟨_, rfl⟩
      obtain ⟨R1, hR1⟩ : ∃ x, x = m1.length := ⟨_, rfl⟩
      obtain ⟨R2, hR2⟩ : ∃ x, x = r2.length := ⟨_, rfl⟩
      obtain ⟨R3, hR3⟩ : ∃ x, x = r3.length := ⟨_, rfl⟩
      rw [← hR0] at HI0 hm0 ⊢
      rw [← hR1] at HI1 hm1 ⊢
      rw [← hR2] at HI2 hm2 hr2 ⊢
      rw [← hR3] at HI3 hm3 hr3 ⊢
      clear hR0 hR1 hR2 hR3
      go_enter Try.func6, Try.ntmps6
      go_wp2
      go_ret
      exact ⟨rfl, Below.refl _ _⟩
    · skip
      have HR2 : Hid (r2.length ≤ 2000000) := hide (by omega)
      have HR3 : Hid (r3.length ≤ 2000000) := hide (by omega)
      have hbb0 : (v_0 != v_0) = false := by cases v_0 <;> rfl
      go_enter Try.func6, Try.ntmps6
      go_wp2_with fail
      refine (szIntSS_any _ m0 (1048576) _ (by omega) HI0.out).mono ?_
      rintro e w1 ⟨q0, rfl, hq0, hb⟩
      have HB1 := hide (hb)
      have s1 := hb.size
      clear hb
      rcases hq0 with rfl | ⟨hsz0, rfl⟩
      · go_wp2
        go_ret
        exact ⟨rfl, HB1.out⟩
      · skip
        have HZ0 : Hid (m0.length + cellsM m0 ≤ 1048576) := hide (by omega)
        go_wp2_with fail
        refine (szIntSS_any _ m1 (1048576 - m0.length - cellsM m0) _ (by omega) (inMat_below HI1.out HB1.out)).mono ?_
        rintro e w2 ⟨q1, rfl, hq1, hb⟩
        have HB2 := hide (HB1.out.trans (hb.mono HB1.out.size))
        have s2 := hb.size
        clear hb
        rcases hq1 with rfl | ⟨hsz1, rfl⟩
        · go_wp2
          go_ret
          exact ⟨rfl, HB2.out⟩
        · skip
          have HZ1 : Hid (m1.length + cellsM m1 ≤ 1048576) := hide (by omega)
          have HS := hide (hs); have HM := hide (hi)
          clear hs hi
          go_wp2_with fail
          refine (toIntSS_any _ m0 _ (by have := HZ0.out; omega) (inMat_below HI0.out HB2.out)).mono ?_
          rintro e w3 ⟨p0, rfl, ho, hb⟩
          have P0_3 := hide (ho)
          have HB3 := hide (HB2.out.trans (hb.mono HB2.out.size))
          have s3 := hb.size
          clear ho hb
          go_wp2_with fail
          refine (toIntSS_any _ m1 _ (by have := HZ1.out; omega) (inMat_below HI1.out HB3.out)).mono ?_
          rintro e w4 ⟨p1, rfl, ho, hb⟩
          have P0_4 := hide (ownMat_below P0_3.out hb)
          have P1_4 := hide (ho)
          have HB4 := hide (HB3.out.trans (hb.mono HB3.out.size))
          have s4 := hb.size
          clear ho hb
          go_wp2_with fail
          refine (toIntS_any _ r2 _ HR2.out (inRow_below HI2.out HB4.out)).mono ?_
          rintro e w5 ⟨p2, rfl, ho, hb⟩
          have P0_5 := hide (ownMat_below P0_4.out hb)
          have P1_5 := hide (ownMat_below P1_4.out hb)
          have P2L := hide (fun k e => (ho).lt k e)
          have P2_5 := hide (ho)
          have HB5 := hide (HB4.out.trans (hb.mono HB4.out.size))
          have s5 := hb.size
          clear ho hb
          go_wp2_with fail
          refine (toIntS_any _ r3 _ HR3.out (inRow_below HI3.out HB5.out)).mono ?_
          rintro e w6 ⟨p3, rfl, ho, hb⟩
          have P0_6 := hide (ownMat_below P0_5.out hb)
          have P1_6 := hide (ownMat_below P1_5.out hb)
          have P2_6 := hide (own_below P2_5.out hb)
          have P3L := hide (fun k e => (ho).lt k e)
          have P3_6 := hide (ho)
          have HB6 := hide (HB5.out.trans (hb.mono HB5.out.size))
          have s6 := hb.size
          clear ho hb
          go_wp2_with fail
          refine (HS.out p0 p1 p2 p3 _ (inMat_own P0_6.out) (inMat_own P1_6.out) (inRow_own P2_6.out) (inRow_own P3_6.out)).mono ?_
          rintro e w7 ⟨rfl, hb⟩
          have HB7 := hide (HB6.out.trans (hb.mono HB6.out.size))
          have s7 := hb.size
          clear hb
          go_wp2_with fail
          refine (toIntSS_any _ m0 _ (by have := HZ0.out; omega) (inMat_below HI0.out HB7.out)).mono ?_
          rintro e w8 ⟨x0, rfl, ho, hb⟩
          have X0_8 := hide (ho)
          have HB8 := hide (HB7.out.trans (hb.mono HB7.out.size))
          have s8 := hb.size
          clear ho hb
          go_wp2_with fail
          refine (toIntSS_any _ m1 _ (by have := HZ1.out; omega) (inMat_below HI1.out HB8.out)).mono ?_
          rintro e w9 ⟨x1, rfl, ho, hb⟩
          have X0_9 := hide (ownMat_below X0_8.out hb)
          have X1_9 := hide (ho)
          have HB9 := hide (HB8.out.trans (hb.mono HB8.out.size))
          have s9 := hb.size
          clear ho hb
          go_wp2_with fail
          refine (toIntS_any _ r2 _ HR2.out (inRow_below HI2.out HB9.out)).mono ?_
          rintro e w10 ⟨x2, rfl, ho, hb⟩
          have X0_10 := hide (ownMat_below X0_9.out hb)
          have X1_10 := hide (ownMat_below X1_9.out hb)
          have X2L := hide (fun k e => (ho).lt k e)
          have X2_10 := hide (ho)
          have HB10 := hide (HB9.out.trans (hb.mono HB9.out.size))
          have s10 := hb.size
          clear ho hb
          go_wp2_with fail
          refine (toIntS_any _ r3 _ HR3.out (inRow_below HI3.out HB10.out)).mono ?_
          rintro e w11 ⟨x3, rfl, ho, hb⟩
          have X0_11 := hide (ownMat_below X0_10.out hb)
          have X1_11 := hide (ownMat_below X1_10.out hb)
          have X2_11 := hide (own_below X2_10.out hb)
          have X3L := hide (fun k e => (ho).lt k e)
          have X3_11 := hide (ho)
          have HB11 := hide (HB10.out.trans (hb.mono HB10.out.size))
          have s11 := hb.size
          clear ho hb
          go_wp2_with fail
          refine (HM.out x0 x1 x2 x3 _ (inMat_own X0_11.out) (inMat_own X1_11.out) (inRow_own X2_11.out) (inRow_own X3_11.out)).mono ?_
          rintro e w12 ⟨rfl, hb⟩
          have X0_12 := hide (ownMat_below X0_11.out hb)
          have X1_12 := hide (ownMat_below X1_11.out hb)
          have X2_12 := hide (own_below X2_11.out hb)
          have X3_12 := hide (own_below X3_11.out hb)
          have HB12 := hide (HB11.out.trans (hb.mono HB11.out.size))
          have s12 := hb.size
          clear hb
          go_wp2_with fail
          refine (toIntSS_any _ m0 _ (by have := HZ0.out; omega) (inMat_below HI0.out HB12.out)).mono ?_
          rintro e w13 ⟨z0, rfl, ho, hb⟩
          have X0_13 := hide (ownMat_below X0_12.out hb)
          have X1_13 := hide (ownMat_below X1_12.out hb)
          have X2_13 := hide (own_below X2_12.out hb)
          have X3_13 := hide (own_below X3_12.out hb)
          have Z0_13 := hide (ho)
          have HB13 := hide (HB12.out.trans (hb.mono HB12.out.size))
          have s13 := hb.size
          clear ho hb
          go_wp2_with fail
          refine (eqIntSS_same x0 z0 m0 _ (inMat_own X0_13.out) (inMat_own Z0_13.out)).mono ?_
          rintro e w14 ⟨rfl, hb⟩
          have X0_14 := hide (ownMat_below X0_13.out hb)
          have X1_14 := hide (ownMat_below X1_13.out hb)
          have X2_14 := hide (own_below X2_13.out hb)
          have X3_14 := hide (own_below X3_13.out hb)
          have HB14 := hide (HB13.out.trans (hb.mono HB13.out.size))
          have s14 := hb.size
          clear hb
          go_wp2_with fail
          refine (toIntSS_any _ m1 _ (by have := HZ1.out; omega) (inMat_below HI1.out HB14.out)).mono ?_
          rintro e w15 ⟨z1, rfl, ho, hb⟩
          have X0_15 := hide (ownMat_below X0_14.out hb)
          have X1_15 := hide (ownMat_below X1_14.out hb)
          have X2_15 := hide (own_below X2_14.out hb)
          have X3_15 := hide (own_below X3_14.out hb)
          have Z1_15 := hide (ho)
          have HB15 := hide (HB14.out.trans (hb.mono HB14.out.size))
          have s15 := hb.size
          clear ho hb
          go_wp2_with fail
          refine (eqIntSS_same x1 z1 m1 _ (inMat_own X1_15.out) (inMat_own Z1_15.out)).mono ?_
          rintro e w16 ⟨rfl, hb⟩
          have X0_16 := hide (ownMat_below X0_15.out hb)
          have X1_16 := hide (ownMat_below X1_15.out hb)
          have X2_16 := hide (own_below X2_15.out hb)
          have X3_16 := hide (own_below X3_15.out hb)
          have HB16 := hide (HB15.out.trans (hb.mono HB15.out.size))
          have s16 := hb.size
          clear hb
          go_wp2_with fail
          refine (toIntS_any _ r2 _ HR2.out (inRow_below HI2.out HB16.out)).mono ?_
          rintro e w17 ⟨z2, rfl, ho, hb⟩
          have X0_17 := hide (ownMat_below X0_16.out hb)
          have X1_17 := hide (ownMat_below X1_16.out hb)
          have X2_17 := hide (own_below X2_16.out hb)
          have X3_17 := hide (own_below X3_16.out hb)
          have Z2L := hide (fun k e => (ho).lt k e)
          have Z2_17 := hide (ho)
          have HB17 := hide (HB16.out.trans (hb.mono HB16.out.size))
          have s17 := hb.size
          clear ho hb
          go_wp2_with fail
          refine (eqIntS_same x2 z2 r2 _ (inRow_own X2_17.out) (inRow_own Z2_17.out)).mono ?_
          rintro e w18 ⟨rfl, hb⟩
          have X0_18 := hide (ownMat_below X0_17.out hb)
          have X1_18 := hide (ownMat_below X1_17.out hb)
          have X2_18 := hide (own_below X2_17.out hb)
          have X3_18 := hide (own_below X3_17.out hb)
          have HB18 := hide (HB17.out.trans (hb.mono HB17.out.size))
          have s18 := hb.size
          clear hb
          go_wp2_with fail
          refine (toIntS_any _ r3 _ HR3.out (inRow_below HI3.out HB18.out)).mono ?_
          rintro e w19 ⟨z3, rfl, ho, hb⟩
          have X0_19 := hide (ownMat_below X0_18.out hb)
          have X1_19 := hide (ownMat_below X1_18.out hb)
          have X2_19 := hide (own_below X2_18.out hb)
          have X3_19 := hide (own_below X3_18.out hb)
          have Z3L := hide (fun k e => (ho).lt k e)
          have Z3_19 := hide (ho)
          have HB19 := hide (HB18.out.trans (hb.mono HB18.out.size))
          have s19 := hb.size
          clear ho hb
          go_wp2_with fail
          refine (eqIntS_same x3 z3 r3 _ (inRow_own X3_19.out) (inRow_own Z3_19.out)).mono ?_
          rintro e w20 ⟨rfl, hb⟩
          have X0_20 := hide (ownMat_below X0_19.out hb)
          have X1_20 := hide (ownMat_below X1_19.out hb)
          have X2_20 := hide (own_below X2_19.out hb)
          have X3_20 := hide (own_below X3_19.out hb)
          have HB20 := hide (HB19.out.trans (hb.mono HB19.out.size))
          have s20 := hb.size
          clear hb
          go_wp2
          go_ret
          exact ⟨rfl, HB20.out⟩

theorem same_belowW {P : Program} {f : FuncId} {a : Array Value} {w : World} {Q : Ending → Prop} (h : Calls P f a w fun e w' => Q e ∧ w = w') : Calls P f a w fun e w' => Q e ∧ Below w.heap.size w w' :=
  h.mono (by rintro e w' ⟨h1, rfl⟩; exact ⟨h1, Below.refl _ _⟩)
theorem lawWeightOk_walk (a0 : Option Addr) (n0 c0 : Nat) (m0 : List (List Int)) (x1 x2 : Int) (w : World) (hin0 : InMat w (.slice a0 n0 c0) m0) (h1 : (Lit.int .i64 x1).wf = true) (h2 : (Lit.int .i64 x2).wf = true) :
    Calls Try.prog 3 #[.slice a0 n0 c0, .int .i64 x1, .int .i64 x2] w fun e w' => e = .returned (.bool true) ∧ Below w.heap.size w w' :=
  lawWeightOk_gen a0 n0 c0 m0 x1 x2 w hin0 h1 h2 (wtB m0 x1 x2) (fun v0 w h0 => same_belowW (specWeightOk_any v0 m0 x1 x2 w h0)) (fun v0 w h0 => implWeightOk_any v0 m0 x1 x2 w h0)
theorem lawWeightOf_walk (a0 : Option Addr) (n0 c0 : Nat) (m0 : List (List Int)) (a1 : Option Addr) (n1 c1 : Nat) (m1 : List (List Int)) (w : World) (hin0 : InMat w (.slice a0 n0 c0) m0) (hin1 : InMat w (.slice a1 n1 c1) m1) :
    Calls Try.prog 4 #[.slice a0 n0 c0, .slice a1 n1 c1] w fun e w' => e = .returned (.bool true) ∧ Below w.heap.size w w' :=
  lawWeightOf_gen a0 n0 c0 m0 a1 n1 c1 m1 w hin0 hin1 (wtOf m0 m1) (wtOfB m0 m1) (fun v0 v1 w h0 h1 => same_belowW (specWeightOf_any v0 v1 m0 m1 w h0 h1)) (fun v0 v1 w h0 h1 => implWeightOf_any v0 v1 m0 m1 w h0 h1)
theorem lawPricesOk_walk (a0 : Option Addr) (n0 c0 : Nat) (m0 : List (List Int)) (a1 : Option Addr) (n1 c1 : Nat) (m1 : List (List Int)) (a2 : Option Addr) (n2 c2 : Nat) (r2 : List Int) (a3 : Option Addr) (n3 c3 : Nat) (r3 : List Int) (w : World)
    (hin0 : InMat w (.slice a0 n0 c0) m0) (hin1 : InMat w (.slice a1 n1 c1) m1) (hin2 : InRow w (.slice a2 n2 c2) r2) (hin3 : InRow w (.slice a3 n3 c3) r3) :
    Calls Try.prog 6 #[.slice a0 n0 c0, .slice a1 n1 c1, .slice a2 n2 c2, .slice a3 n3 c3] w fun e w' => e = .returned (.bool true) ∧ Below w.heap.size w w' :=
  lawPricesOk_gen a0 n0 c0 m0 a1 n1 c1 m1 a2 n2 c2 r2 a3 n3 c3 r3 w hin0 hin1 hin2 hin3 (prOkB m0 m1 r2 r3) (fun v0 v1 v2 v3 w h0 h1 h2 h3 => specPricesOk_any v0 v1 v2 v3 m0 m1 r2 r3 w h0 h1 h2 h3) (fun v0 v1 v2 v3 w h0 h1 h2 h3 => implPricesOk_any v0 v1 v2 v3 m0 m1 r2 r3 w h0 h1 h2 h3)
end Go.Proofs.Ytldbgkmgmhlbiaa
