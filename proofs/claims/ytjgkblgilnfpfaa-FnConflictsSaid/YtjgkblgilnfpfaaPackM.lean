/-
  Texts of this claim, one behind the other: MskS, HcW, ConfP.
-/
import Derived.Test.YtjgkblgilnfpfaaPackL
/-
  Masks, of the model: l08Size, MaskOk, MeetsMask; MeetsMask of the program.
-/
namespace Go.Proofs.Ytjgkblgilnfpfaa
open Go.RowKit Go.Shelf

def sizeRow (C : Nat) (lo hi : Int) (q : List Int) : Bool := q.length == C && q.all fun x => decide (lo ≤ x ∧ x ≤ hi)
def sizeB (k : List (List Int)) (R C : Nat) (lo hi : Int) : Bool := k.length == R && k.all (sizeRow C lo hi)
theorem all_no {α : Type} {p : α → Bool} {l : List α} (i : Nat) (hi : i < l.length) (h : p l[i] = false) : l.all p = false := by
  rw [List.all_eq_false]
  exact ⟨l[i], List.getElem_mem hi, by simp [h]⟩
theorem all_yes {α : Type} {p : α → Bool} {l : List α} (h : ∀ i, (hi : i < l.length) → p l[i] = true) : l.all p = true := by
  rw [List.all_eq_true]
  intro x hx
  obtain ⟨i, hi, rfl⟩ := List.getElem_of_mem hx
  exact h i hi

set_option maxRecDepth 100000 in
set_option maxHeartbeats 1000000 in
theorem l08Size_any (v : Value) (m : List (List Int)) (R C : Nat) (lo hi : Int) (w : World) (hR : R ≤ 5) (hC : 1 ≤ C ∧ C ≤ 5) (hin : InMat w v m) :
    Calls Try.prog 60 #[v, .int .i64 R, .int .i64 C, .int .i64 lo, .int .i64 hi] w fun e w' => e = .returned (.bool (sizeB m R C lo hi)) ∧ w = w' := by
  obtain ⟨a, c, rfl, hm, hp⟩ := hin
  unfold maxLen at hm
  by_cases hlen : m.length = R
  · by_cases h0 : m.length = 0
    · have hr : m = [] := List.eq_nil_of_length_eq_zero h0
      subst hr
      obtain rfl : R = 0 := by simpa using hlen.symm
      clear hp h0 hm hlen hR
      go_enter Try.func60, Try.ntmps60
      go_wp2
      go_loop [21] (fun i => i = .int .i64 0) (fun _ => 0)
      case atStart => rfl
      case round =>
        obtain rfl := hrel
        go_wp2
        go_ret
        exact ⟨rfl, rfl⟩
    · obtain ⟨g, o, rfl, hg, hcell⟩ := hp.resolve_left h0
      have HC := hide hcell
      have HL := hide hlen
      have HSZ : Hid (sizeB m R C lo hi = m.all (sizeRow C lo hi)) := hide (by rw [sizeB, beq_iff_eq.2 hlen, Bool.true_and])
      rw [HSZ.out]
      rw [hlen] at hm ⊢
      clear hp hcell hlen h0
      go_enter Try.func60, Try.ntmps60
      go_wp2
      go_loop [21] (fun i => ∃ k : Nat, k ≤ R ∧ i = .int .i64 k ∧ ∀ t, (h : t < m.length) → t < k → sizeRow C lo hi m[t] = true) (fun i => R - (intOf i).toNat)
      case atStart => exact ⟨0, Nat.zero_le _, rfl, fun t _ h => absurd h (Nat.not_lt_zero _)⟩
      case round =>
        obtain ⟨k, hk, rfl, hall⟩ := hrel
        have HA := hide hall
        clear hall
        by_cases hlt : k < R
        · have hk' : k < m.length := by rw [HL.out]; exact hlt
          obtain ⟨u, hx, hr⟩ := HC.out k hk'
          obtain ⟨a', c', rfl, hm', hp'⟩ := hr
          unfold maxLen at hm'
          have HNO := hide (fun h => all_no (p := sizeRow C lo hi) k hk' h)
          obtain ⟨row, hrow⟩ : ∃ row, row = m[k] := ⟨_, rfl⟩
          have HROW := hide hrow
          rw [← hrow] at hx hm' hp' HNO
          by_cases hln : row.length = C
          · obtain ⟨g', o', rfl, hg', hcell'⟩ := hp'.resolve_left (by omega)
            have HC' := hide hcell'
            have HLN := hide hln
            rw [hln] at hx hm'
            clear hp' hcell' hrow hln
            go_wp2
            go_loop [31] (fun i => ∃ j : Nat, j ≤ C ∧ i = .int .i64 j ∧ ∀ t, (h : t < row.length) → t < j → (decide (lo ≤ row[t] ∧ row[t] ≤ hi)) = true) (fun i => C - (intOf i).toNat)
            case atStart => exact ⟨0, Nat.zero_le _, rfl, fun t _ h => absurd h (Nat.not_lt_zero _)⟩
            case round =>
              obtain ⟨j, hj, rfl, hall⟩ := hrel
              have HB := hide hall
              clear hall
              by_cases hlj : j < C
              · have hj' : j < row.length := by rw [HLN.out]; exact hlj
                have hy := HC'.out j hj'
                have HSB := hide (show decide (lo ≤ row[j] ∧ row[j] ≤ hi) = true → ∀ t, (h : t < row.length) → t < j + 1 → decide (lo ≤ row[t] ∧ row[t] ≤ hi) = true from fun hc t ht h => by
                  by_cases e : t = j
                  · subst e; exact hc
                  · exact HB.out t ht (by omega))
                have HNB := hide (show decide (lo ≤ row[j] ∧ row[j] ≤ hi) = false → m.all (sizeRow C lo hi) = false from fun h => HNO.out (by
                  rw [sizeRow, all_no (p := fun x => decide (lo ≤ x ∧ x ≤ hi)) j hj' h, Bool.and_false]))
                obtain ⟨y, hyy⟩ : ∃ y, y = row[j] := ⟨_, rfl⟩
                rw [← hyy] at hy HSB HNB
                have HCALL := hide fun w' => l01In_any y lo hi w'
                obtain ⟨q, hq⟩ : ∃ q, q = decide (lo ≤ y ∧ y ≤ hi) := ⟨_, rfl⟩
                rw [← hq] at HCALL HSB HNB
                clear hyy hq
                cases q with
                | true =>
                  have HS2 := hide (HSB.out rfl)
                  clear HNB HSB
                  go_wp2_with (go_at_call 85; refine (HCALL.out _).mono ?_; rintro e w9 ⟨rfl, rfl⟩)
                  go_round
                  case rel => exact ⟨j + 1, by omega, by go_num, HS2.out⟩
                  case measure => simp [intOf]; omega
                | false =>
                  have HF := hide (HNB.out rfl)
                  clear HSB HNB
                  go_wp2_with (go_at_call 85; refine (HCALL.out _).mono ?_; rintro e w9 ⟨rfl, rfl⟩)
                  go_ret
                  exact ⟨ret_bool HF.out.symm, rfl⟩
              · have HST : Hid (∀ t, (h : t < m.length) → t < k + 1 → sizeRow C lo hi m[t] = true) := hide fun t h1 ht => by
                  by_cases e : t = k
                  · subst e
                    rw [← HROW.out, sizeRow, beq_iff_eq.2 HLN.out, Bool.true_and]
                    exact all_yes fun i hi => HB.out i hi (by have := HLN.out; omega)
                  · exact HA.out t h1 (by omega)
                go_wp2
                go_round
                case rel => exact ⟨k + 1, by omega, by go_num, HST.out⟩
                case measure => simp [intOf]; omega
          · have HF := hide (HNO.out (by rw [sizeRow, beq_eq_false_iff_ne.2 hln, Bool.false_and]))
            obtain ⟨n, hn⟩ : ∃ n, n = row.length := ⟨_, rfl⟩
            rw [← hn] at hx hm' hln
            have hne : ((n : Int) != (C : Int)) = true := by simp; omega
            clear hn hp' hrow
            go_wp2
            go_ret
            exact ⟨ret_bool HF.out.symm, rfl⟩
        · have HY := hide (all_yes (p := sizeRow C lo hi) fun t ht => HA.out t ht (by have := HL.out; omega))
          go_wp2
          go_ret
          exact ⟨ret_bool HY.out.symm, rfl⟩
  · have HF : Hid (sizeB m R C lo hi = false) := hide (by rw [sizeB, beq_eq_false_iff_ne.2 hlen, Bool.false_and])
    rw [HF.out]
    obtain ⟨n, hn⟩ : ∃ n, n = m.length := ⟨_, rfl⟩
    rw [← hn] at hlen hm ⊢
    have hne : ((n : Int) != (R : Int)) = true := by simp; omega
    clear hn hp hlen
    go_enter Try.func60, Try.ntmps60
    go_wp2
    go_ret
    exact ⟨rfl, rfl⟩
theorem cell_range (x : Int) : (x == -1 || cellOk x) = decide ((-1 : Int) ≤ x ∧ x ≤ 1) := by
  unfold cellOk
  by_cases h : -1 ≤ x ∧ x ≤ 1
  · rw [decide_eq_true h]
    rcases (show x = -1 ∨ x = 0 ∨ x = 1 by omega) with rfl | rfl | rfl <;> rfl
  · rw [decide_eq_false h, beq_eq_false_iff_ne.2 (by omega), beq_eq_false_iff_ne.2 (by omega), beq_eq_false_iff_ne.2 (by omega)]; rfl
theorem maskB_size (k : List (List Int)) (r c : List Int) : maskB k r c = (sumsOk r c && sizeB k r.length c.length (-1) 1) := by
  have e : maskRowB c.length = sizeRow c.length (-1) 1 := by
    funext q
    unfold maskRowB sizeRow
    congr 2
    funext x; exact cell_range x
  rw [maskB, sizeB, e, Bool.and_assoc]
set_option maxHeartbeats 400000 in
theorem specMaskOk_any (vk va vb : Value) (k : List (List Int)) (r c : List Int) (w : World) (hk : InMat w vk k) (ha : InRow w va r) (hb : InRow w vb c) :
    Calls Try.prog 31 #[vk, va, vb] w fun e w' => e = .returned (.bool (maskB k r c)) ∧ Below w.heap.size w w' := by
  have HS := hide (specSumsOk_any va vb r c w ha hb)
  rw [maskB_size]
  cases h : sumsOk r c with
  | false =>
    rw [h] at HS
    obtain ⟨ak, ck, rfl, -, -⟩ := hk
    obtain ⟨aa, ca, rfl, -, -⟩ := ha
    obtain ⟨ab, cb, rfl, -, -⟩ := hb
    generalize r.length = R at *
    generalize c.length = C at *
    generalize k.length = K at *
    clear h
    go_enter Try.func31, Try.ntmps31
    go_wp2_with (go_at_call 49; refine HS.out.mono ?_; rintro e w1 ⟨rfl, b1⟩; have B1 := hide b1; clear b1)
    go_ret
    exact ⟨rfl, B1.out⟩
  | true =>
    rw [h] at HS
    obtain ⟨hr5, hc5, -⟩ := sumsOk_yes h
    have HZ := hide fun w' (hw : Below w.heap.size w w') => l08Size_any vk k r.length c.length (-1) 1 w' hr5.2 hc5 (inMat_below hk hw)
    obtain ⟨q, hq⟩ : ∃ q, q = sizeB k r.length c.length (-1) 1 := ⟨_, rfl⟩
    rw [← hq] at HZ ⊢
    obtain ⟨ak, ck, rfl, -, -⟩ := hk
    obtain ⟨aa, ca, rfl, -, -⟩ := ha
    obtain ⟨ab, cb, rfl, -, -⟩ := hb
    clear hq h
    generalize r.length = R at *
    generalize c.length = C at *
    generalize k.length = K at *
    go_enter Try.func31, Try.ntmps31
    go_wp2_with (first | (go_at_call 49; refine HS.out.mono ?_; rintro e w1 ⟨rfl, b1⟩; have B1 := hide b1; clear b1) | (go_at_call 60; refine (HZ.out _ B1.out).mono ?_; rintro e w2 ⟨rfl, rfl⟩))
    go_ret
    exact ⟨rfl, B1.out⟩

/-- Where all cells are 0 or 1, what is met has elements in the range of an integer. -/
theorem meets_size (m k : List (List Int)) (hm : okB m = true) (h : meetM m k = true) : sizeB k m.length (widthM m) (-9223372036854775807) 9223372036854775807 = true := by
  obtain ⟨h1, h2, h3⟩ := okB_parts hm
  have hl := eqBy_len h
  rw [sizeB, beq_iff_eq.2 hl.symm, Bool.true_and]
  refine all_yes fun i hi => ?_
  have hr : meetR m[i] k[i] = true := eqBy_at i (by omega) hi h
  have hrl := eqBy_len hr
  obtain ⟨g1, g2⟩ := h3 i (by omega)
  rw [sizeRow, beq_iff_eq.2 (by omega), Bool.true_and]
  refine all_yes fun j hj => ?_
  have hc : meetC m[i][j] k[i][j] = true := eqBy_at j (by omega) hj hr
  have := g2 j (by omega)
  unfold meetC at hc
  simp only [Bool.or_eq_true, beq_iff_eq] at hc
  exact decide_eq_true (by omega)
where
  okB_parts {m : List (List Int)} (h : okB m = true) : (1 ≤ m.length ∧ m.length ≤ 5) ∧ (1 ≤ widthM m ∧ widthM m ≤ 5) ∧ ∀ i, (hi : i < m.length) → m[i].length = widthM m ∧ ∀ j, (hj : j < m[i].length) → m[i][j] = 0 ∨ m[i][j] = 1 := by
    unfold okB at h
    simp only [Bool.and_eq_true, decide_eq_true_eq] at h
    refine ⟨h.1.1, h.1.2, fun i hi => ?_⟩
    have := List.all_eq_true.1 h.2 _ (List.getElem_mem hi)
    unfold rowOk at this
    simp only [Bool.and_eq_true, beq_iff_eq] at this
    refine ⟨this.1, fun j hj => ?_⟩
    have := List.all_eq_true.1 this.2 _ (List.getElem_mem hj)
    unfold cellOk at this
    simpa using this
set_option maxRecDepth 100000 in
set_option maxHeartbeats 1000000 in
theorem specMeets_any (va vb : Value) (m l : List (List Int)) (w : World) (ha : InMat w va m) (hb : InMat w vb l) :
    Calls Try.prog 33 #[va, vb] w fun e w' => e = .returned (.bool (meetsB m l)) ∧ w = w' := by
  have HOK := hide (specImageOk_any va m w ha)
  cases h : okB m with
  | false =>
    rw [h] at HOK
    rw [meetsB, h]
    obtain ⟨a, ca, rfl, -, -⟩ := ha
    obtain ⟨b, cb, rfl, -, -⟩ := hb
    generalize m.length = M at *
    generalize l.length = L at *
    clear h
    go_enter Try.func33, Try.ntmps33
    go_wp2_with (go_at_call 61; refine HOK.out.mono ?_; rintro e w1 ⟨rfl, rfl⟩)
    go_ret
    exact ⟨rfl, rfl⟩
  | true =>
    rw [h] at HOK
    obtain ⟨h1, h2, h3⟩ := meets_size.okB_parts h
    have HMS := hide (meets_size m l h)
    have HSZ := hide (l08Size_any vb l m.length (widthM m) (-9223372036854775807) 9223372036854775807 w h1.2 h2 hb)
    have HMB : Hid (meetsB m l = meetM m l) := hide (by rw [meetsB, h, Bool.true_and])
    rw [HMB.out]
    obtain ⟨a, ca, rfl, hma, hpa⟩ := ha
    obtain ⟨b, cb, rfl, hmb, hpb⟩ := hb
    unfold maxLen at hma hmb
    obtain ⟨ga, oa, rfl, hga, hca⟩ := hpa.resolve_left (by omega)
    have HA := hide hca
    obtain ⟨u0, hx0, hr0⟩ := hca 0 (by omega)
    rw [Nat.add_zero] at hx0
    obtain ⟨a0, c0, rfl, -, -⟩ := hr0
    rw [show m[0].length = widthM m from (h3 0 (by omega)).1] at hx0
    obtain ⟨W, hW⟩ : ∃ W, W = widthM m := ⟨_, rfl⟩
    obtain ⟨R, hR⟩ : ∃ R, R = m.length := ⟨_, rfl⟩
    have HR := hide hR; have HW := hide hW; have H3 := hide h3
    rw [← hW] at hx0 h2 HSZ HMS H3
    rw [← hR] at h1 hma HOK HSZ HMS
    rw [← hR]
    obtain ⟨q, hq⟩ : ∃ q, q = sizeB l R W (-9223372036854775807) 9223372036854775807 := ⟨_, rfl⟩
    have HQ := hide hq
    rw [← hq] at HSZ HMS
    have hR0 : 0 < R := by omega
    obtain ⟨h1a, h1b⟩ := h1
    obtain ⟨h2a, h2b⟩ := h2
    cases q with
    | false =>
      have HF : Hid (meetM m l = false) := hide (by
        cases e : meetM m l with
        | false => rfl
        | true => have := HMS.out e; cases this)
      rw [HF.out]
      clear h hq hR hW h3 hpa hpb hca HQ HMS
      generalize l.length = L at *
      go_enter Try.func33, Try.ntmps33
      go_wp2_with (first | (go_at_call 61; refine HOK.out.mono ?_; rintro e w1 ⟨rfl, rfl⟩) | (go_at_call 60; refine HSZ.out.mono ?_; rintro e w1 ⟨rfl, rfl⟩))
      go_ret
      exact ⟨rfl, rfl⟩
    | true =>
      have hsz := hq.symm
      rw [sizeB, Bool.and_eq_true, beq_iff_eq] at hsz
      have hlr : ∀ i, (hi : i < l.length) → l[i].length = W := fun i hi => by
        have := List.all_eq_true.1 hsz.2 _ (List.getElem_mem hi)
        rw [sizeRow, Bool.and_eq_true, beq_iff_eq] at this
        exact this.1
      obtain ⟨gb, ob, rfl, hgb, hcb⟩ := hpb.resolve_left (by omega)
      have HB := hide hcb; have HLR := hide hlr; have HLL := hide hsz.1
      rw [hsz.1] at hmb HSZ ⊢
      clear h hq hR hW h3 hpa hpb hca hcb hsz hlr HMS HQ
      go_enter Try.func33, Try.ntmps33
      go_wp2_with (first | (go_at_call 61; refine HOK.out.mono ?_; rintro e w1 ⟨rfl, rfl⟩) | (go_at_call 60; refine HSZ.out.mono ?_; rintro e w1 ⟨rfl, rfl⟩))
      clear hx0
      go_loop [25] (fun i => ∃ k : Nat, k ≤ R ∧ i = .int .i64 k ∧ ∀ t, (g1 : t < m.length) → (g2 : t < l.length) → t < k → meetR m[t] l[t] = true) (fun i => R - (intOf i).toNat)
      case atStart => exact ⟨0, Nat.zero_le _, rfl, fun t _ _ h => absurd h (Nat.not_lt_zero _)⟩
      case round =>
        obtain ⟨k, hk, rfl, hall⟩ := hrel
        have HH := hide hall
        clear hall
        by_cases hlt : k < R
        · have hk1 : k < m.length := by rw [← HR.out]; exact hlt
          have hk2 : k < l.length := by rw [HLL.out]; exact hlt
          obtain ⟨ua, hxa, hra⟩ := HA.out k hk1
          obtain ⟨a1, c1, rfl, -, hp1⟩ := hra
          have hl1 := (H3.out k hk1).1
          obtain ⟨g1, o1, rfl, hg1, hc1⟩ := hp1.resolve_left (by omega)
          have HC1 := hide hc1
          obtain ⟨ub, hxb, hrb⟩ := HB.out k hk2
          obtain ⟨a2, c2, rfl, -, hp2⟩ := hrb
          have hl2 := HLR.out k hk2
          obtain ⟨g2, o2, rfl, hg2, hc2⟩ := hp2.resolve_left (by omega)
          have HC2 := hide hc2
          have HNO := hide (fun h => eqBy_no2 (p := meetR) k hk1 hk2 h)
          obtain ⟨p, hpp⟩ : ∃ p, p = m[k] := ⟨_, rfl⟩
          obtain ⟨s, hss⟩ : ∃ s, s = l[k] := ⟨_, rfl⟩
          have HP := hide hpp; have HS := hide hss
          rw [← hpp] at hxa hl1 HC1 HNO
          rw [← hss] at hxb hl2 HC2 HNO
          have HL1 := hide hl1; have HL2 := hide hl2
          rw [hl1] at hxa
          rw [hl2] at hxb
          clear hp1 hp2 hc1 hc2 hpp hss hl1 hl2
          go_wp2
          go_loop [32] (fun i => ∃ j : Nat, j ≤ W ∧ i = .int .i64 j ∧ ∀ t, (g1 : t < p.length) → (g2 : t < s.length) → t < j → meetC p[t] s[t] = true) (fun i => W - (intOf i).toNat)
          case atStart => exact ⟨0, Nat.zero_le _, rfl, fun t _ _ h => absurd h (Nat.not_lt_zero _)⟩
          case round =>
            obtain ⟨j, hj, rfl, hall⟩ := hrel
            have HI := hide hall
            clear hall
            by_cases hlj : j < W
            · have hj1 : j < p.length := by rw [HL1.out]; exact hlj
              have hj2 : j < s.length := by rw [HL2.out]; exact hlj
              have hy1 := HC1.out j hj1
              have hy2 := HC2.out j hj2
              have HSB := hide (show meetC p[j] s[j] = true → ∀ t, (g1 : t < p.length) → (g2 : t < s.length) → t < j + 1 → meetC p[t] s[t] = true from fun hc t g1 g2 h => by
                by_cases e : t = j
                · subst e; exact hc
                · exact HI.out t g1 g2 (by omega))
              have HNB := hide (show meetC p[j] s[j] = false → meetM m l = false from fun h => HNO.out (eqBy_no2 (p := meetC) j hj1 hj2 h))
              obtain ⟨x, hx⟩ : ∃ x, x = p[j] := ⟨_, rfl⟩
              obtain ⟨y, hy⟩ : ∃ y, y = s[j] := ⟨_, rfl⟩
              rw [← hx] at hy1 HSB HNB
              rw [← hy] at hy2 HSB HNB
              clear hx hy
              by_cases e1 : y = -1
              · subst e1
                have HS2 := hide (HSB.out rfl)
                clear HNB HSB
                go_wp2
                go_round
                case rel => exact ⟨j + 1, by omega, by go_num, HS2.out⟩
                case measure => simp [intOf]; omega
              · have b1 : (y != -1) = true := by simp [e1]
                by_cases e2 : y = x
                · subst e2
                  have HS2 := hide (HSB.out (by simp [meetC]))
                  clear HNB HSB e1
                  go_wp2
                  go_round
                  case rel => exact ⟨j + 1, by omega, by go_num, HS2.out⟩
                  case measure => simp [intOf]; omega
                · have b2 : (y != x) = true := by simp [e2]
                  have HF := hide (HNB.out (by unfold meetC; rw [beq_eq_false_iff_ne.2 e1, beq_eq_false_iff_ne.2 e2]; rfl))
                  clear HSB HNB e1 e2
                  go_wp2
                  go_ret
                  exact ⟨ret_bool HF.out.symm, rfl⟩
            · have HST : Hid (∀ t, (g1 : t < m.length) → (g2 : t < l.length) → t < k + 1 → meetR m[t] l[t] = true) := hide fun t h1 h2 ht => by
                by_cases e : t = k
                · subst e
                  rw [← HP.out, ← HS.out]
                  exact eqBy_yes (by rw [HL1.out, HL2.out]) fun i g1 g2 => HI.out i g1 g2 (by have := HL1.out; omega)
                · exact HH.out t h1 h2 (by omega)
              go_wp2
              go_round
              case rel => exact ⟨k + 1, by omega, by go_num, HST.out⟩
              case measure => simp [intOf]; omega
        · have HY := hide (eqBy_yes (p := meetR) (by rw [← HR.out, HLL.out]) fun t g1 g2 => HH.out t g1 g2 (by have := HR.out; omega))
          go_wp2
          go_ret
          exact ⟨ret_bool HY.out.symm, rfl⟩

set_option maxHeartbeats 1000000 in
theorem matMeetsF_any (va vb : Value) (m l : List (List Int)) (w : World) (ha : InMat w va m) (hb : InMat w vb l) :
    Calls Try.prog 63 #[va, vb, .func (.func 64) #[] #[]] w fun e w' => e = .returned (.bool (meetM m l)) ∧ w = w' := by
  obtain ⟨a, ca, rfl, hma, hpa⟩ := ha
  obtain ⟨b, cb, rfl, hmb, hpb⟩ := hb
  unfold maxLen at hma hmb
  by_cases hlen : m.length = l.length
  · by_cases h0 : m.length = 0
    · have hr : m = [] := List.eq_nil_of_length_eq_zero h0
      have hs : l = [] := List.eq_nil_of_length_eq_zero (by omega)
      subst hr; subst hs
      clear hpa hpb hma hmb hlen h0
      go_enter Try.func63, Try.ntmps63
      go_wp2
      go_loop [17] (fun i => i = .int .i64 0) (fun _ => 0)
      case atStart => rfl
      case round =>
        obtain rfl := hrel
        go_wp2
        go_ret
        exact ⟨rfl, rfl⟩
    · obtain ⟨ga, oa, rfl, hga, hca⟩ := hpa.resolve_left h0
      obtain ⟨gb, ob, rfl, hgb, hcb⟩ := hpb.resolve_left (by omega)
      have HA := hide hca; have HB := hide hcb; have HL := hide hlen
      obtain ⟨n, hn⟩ : ∃ n, n = m.length := ⟨_, rfl⟩
      have HN := hide hn
      have HM : Hid (l.length = n) := hide (by omega)
      rw [← hlen, ← hn]
      rw [← hn] at hma
      clear hpa hpb hca hcb h0 hmb hlen hn
      go_enter Try.func63, Try.ntmps63
      go_wp2
      go_loop [17] (fun i => ∃ k : Nat, k ≤ n ∧ i = .int .i64 k ∧ (∀ t, (h1 : t < m.length) → (h2 : t < l.length) → t < k → meetR m[t] l[t] = true)) (fun i => n - (intOf i).toNat)
      case atStart => exact ⟨0, Nat.zero_le _, rfl, fun t _ _ h => absurd h (Nat.not_lt_zero _)⟩
      case round =>
        obtain ⟨k, hk, rfl, hall⟩ := hrel
        have HH := hide hall
        clear hall
        by_cases hlt : k < n
        · have hkr : k < m.length := by rw [← HN.out]; exact hlt
          have hks : k < l.length := by rw [HM.out]; exact hlt
          obtain ⟨ua, hxa, hra⟩ := HA.out k hkr
          obtain ⟨ub, hxb, hrb⟩ := HB.out k hks
          have HCALL := hide (rowMeets_any ua ub m[k] l[k] w hra hrb)
          have HNO := hide (fun h => eqBy_no2 (p := meetR) k hkr hks h)
          have HST : Hid (meetR m[k] l[k] = true → ∀ t, (h1 : t < m.length) → (h2 : t < l.length) → t < k + 1 → meetR m[t] l[t] = true) := hide fun h t h1 h2 ht => by
            by_cases e : t = k
            · subst e; exact h
            · exact HH.out t h1 h2 (by omega)
          obtain ⟨q, hq⟩ : ∃ q, q = meetR m[k] l[k] := ⟨_, rfl⟩
          rw [← hq] at HCALL HNO HST
          clear hra hrb hq
          cases q with
          | true =>
            have HS2 := hide (HST.out rfl)
            clear HNO HST
            go_wp2_with (go_at_call 64; refine HCALL.out.mono ?_; rintro e w9 ⟨rfl, rfl⟩)
            go_round
            case rel => exact ⟨k + 1, by omega, by go_num, HS2.out⟩
            case measure => simp [intOf]; omega
          | false =>
            have HF := hide (HNO.out rfl)
            clear HST HNO
            go_wp2_with (go_at_call 64; refine HCALL.out.mono ?_; rintro e w9 ⟨rfl, rfl⟩)
            go_ret
            exact ⟨ret_bool HF.out.symm, rfl⟩
        · have HY := hide (eqBy_yes (p := meetR) HL.out fun t h1 h2 => HH.out t h1 h2 (by have := HN.out; omega))
          go_wp2
          go_ret
          exact ⟨ret_bool HY.out.symm, rfl⟩
  · have HF := hide (eqBy_no1 (p := meetR) hlen)
    obtain ⟨n, hn⟩ : ∃ n, n = m.length := ⟨_, rfl⟩
    obtain ⟨k, hk⟩ : ∃ k, k = l.length := ⟨_, rfl⟩
    rw [← hn, ← hk] at hlen ⊢
    rw [← hn] at hma
    rw [← hk] at hmb
    have hne2 : ((n : Int) != (k : Int)) = true := by simp; omega
    clear hpa hpb hn hk hlen
    go_enter Try.func63, Try.ntmps63
    go_wp2
    go_ret
    exact ⟨ret_bool HF.out.symm, rfl⟩
theorem implMeets_any (va vb : Value) (m l : List (List Int)) (w : World) (ha : InMat w va m) (hb : InMat w vb l) :
    Calls Try.prog 34 #[va, vb] w fun e w' => e = .returned (.bool (meetsB m l)) ∧ w = w' := by
  have HO := hide (implImageOk_any va m w ha)
  have HF := hide (matMeetsF_any va vb m l w ha hb)
  unfold meetsB
  obtain ⟨q, hq⟩ : ∃ q, q = meetM m l := ⟨_, rfl⟩
  rw [← hq] at HF ⊢
  obtain ⟨b, hbb⟩ : ∃ b, b = okB m := ⟨_, rfl⟩
  rw [← hbb] at HO ⊢
  obtain ⟨aa, ca, rfl, -, -⟩ := ha
  obtain ⟨ab, cb, rfl, -, -⟩ := hb
  clear hq hbb
  generalize m.length = M at *
  generalize l.length = L at *
  cases b with
  | false =>
    go_enter Try.func34, Try.ntmps34
    go_wp2_with (go_at_call 62; refine HO.out.mono ?_; rintro e w' ⟨rfl, rfl⟩)
    go_ret
    exact ⟨rfl, rfl⟩
  | true =>
    go_enter Try.func34, Try.ntmps34
    go_wp2_with (first | (go_at_call 62; refine HO.out.mono ?_; rintro e w' ⟨rfl, rfl⟩) | (go_at_call 63; refine HF.out.mono ?_; rintro e w' ⟨rfl, rfl⟩))
    go_ret
    exact ⟨rfl, rfl⟩
end Go.Proofs.Ytjgkblgilnfpfaa
/-
  HasConflict, of the program.
-/
namespace Go.Proofs.Ytjgkblgilnfpfaa
open Go.RowKit Go.Shelf

theorem hasB_at {l : List Int} {y : Nat} (i : Nat) (h : i < l.length) (e : l[i] = y) : hasB l y = true := List.any_eq_true.2 ⟨_, List.getElem_mem h, by simp [e]⟩
theorem hasB_no {l : List Int} {y : Nat} (h : ∀ i, (hi : i < l.length) → l[i] ≠ y) : hasB l y = false := by
  unfold hasB
  rw [List.any_eq_false]
  intro x hx
  obtain ⟨i, hi, rfl⟩ := List.getElem_of_mem hx
  simpa using h i hi

set_option maxHeartbeats 1000000 in
theorem indexInt_any (v : Value) (l : List Int) (y : Nat) (w : World) (hin : InRow w v l) :
    Calls Try.prog 116 #[v, .int .i64 y] w (IdxRes (hasB l y) w) := by
  obtain ⟨a, c, rfl, hm, hp⟩ := hin
  unfold maxLen at hm
  by_cases h0 : l.length = 0
  · have hr : l = [] := List.eq_nil_of_length_eq_zero h0
    subst hr
    clear hp h0 hm
    go_enter Try.func116, Try.ntmps116
    go_wp2
    go_loop [8] (fun i => i = .int .i64 0) (fun _ => 0)
    case atStart => rfl
    case round =>
      obtain rfl := hrel
      go_wp2
      go_ret
      exact ⟨-1, rfl, by omega, rfl, rfl⟩
  · obtain ⟨gr, o, rfl, hg, hc⟩ := hp.resolve_left h0
    have HC := hide hc
    obtain ⟨n, hn⟩ : ∃ n, n = l.length := ⟨_, rfl⟩
    have HN := hide hn
    rw [← hn] at hm ⊢
    clear hp hc h0 hn
    go_enter Try.func116, Try.ntmps116
    go_wp2
    go_loop [8] (fun i => ∃ k : Nat, k ≤ n ∧ i = .int .i64 k ∧ ∀ t, (h : t < l.length) → t < k → l[t] ≠ y) (fun i => n - (intOf i).toNat)
    case atStart => exact ⟨0, Nat.zero_le _, rfl, fun t _ h => absurd h (Nat.not_lt_zero _)⟩
    case round =>
      obtain ⟨k, hk, rfl, hall⟩ := hrel
      have HA := hide hall
      clear hall
      by_cases hlt : k < n
      · have hk' : k < l.length := by rw [← HN.out]; exact hlt
        have hx := HC.out k hk'
        have HYES := hide (fun h => hasB_at (y := y) k hk' h)
        have HST : Hid (l[k] ≠ y → ∀ t, (h : t < l.length) → t < k + 1 → l[t] ≠ y) := hide fun h t h1 ht => by
          by_cases e : t = k
          · subst e; exact h
          · exact HA.out t h1 (by omega)
        obtain ⟨x, hxx⟩ : ∃ x, x = l[k] := ⟨_, rfl⟩
        rw [← hxx] at hx HYES HST
        clear hxx
        by_cases e : x = y
        · have HF := hide (HYES.out e)
          subst e
          clear HYES HST
          go_wp2
          go_ret
          exact ⟨k, rfl, by omega, by rw [HF.out]; simp, rfl⟩
        · have HS2 := hide (HST.out e)
          have hb : (y == x) = false := by simp; omega
          have hb2 : (x == y) = false := by simp [e]
          clear HYES HST e
          go_wp2
          go_round
          case rel => exact ⟨k + 1, by omega, by go_num, HS2.out⟩
          case measure => simp [intOf]; omega
      · have HY := hide (hasB_no fun t h => HA.out t h (by have := HN.out; omega))
        go_wp2
        go_ret
        exact ⟨-1, rfl, by omega, by rw [HY.out]; rfl, rfl⟩
theorem containsInt_any (v : Value) (l : List Int) (y : Nat) (w : World) (hin : InRow w v l) :
    Calls Try.prog 107 #[v, .int .i64 y] w fun e w' => e = .returned (.bool (hasB l y)) ∧ w = w' := by
  have HI := hide (indexInt_any v l y w hin)
  clear hin
  go_enter Try.func107, Try.ntmps107
  go_wp2_with fail
  refine HI.out.mono ?_
  rintro e w1 ⟨i, rfl, hi, hb, rfl⟩
  have HB := hide hb
  clear hb HI
  by_cases h : 0 ≤ i
  · go_wp2
    go_ret
    exact ⟨ret_bool (by rw [HB.out]; simp [h]), rfl⟩
  · go_wp2
    go_ret
    exact ⟨ret_bool (by rw [HB.out]), rfl⟩
set_option maxHeartbeats 1000000 in
theorem totalAt_any (vs vl : Value) (s l : List Int) (w : World) (hs : InRow w vs s) (hl : InRow w vl l) (h5 : s.length ≤ 5) (hx : ∀ x ∈ s, 0 ≤ x ∧ x ≤ 5) (ha : ascB s.length l = true) :
    Calls Try.prog 82 #[vs, vl] w fun e w' => e = .returned (.int .i64 (totalL s l)) ∧ w = w' := by
  have hll := asc_len (Int.natCast_nonneg _) ha
  have HR := hide fun t (ht : t < l.length) => asc_range ha ht
  have HT := hide fun t => totalL_range s (l.take t) hx
  have HSN := hide fun t (ht : t < l.length) => totalL_snoc s l t ht
  obtain ⟨a, ca, rfl, hma, hpa⟩ := hs
  obtain ⟨b, cb, rfl, hmb, hpb⟩ := hl
  unfold maxLen at hma hmb
  by_cases h0 : l.length = 0
  · have hr : l = [] := List.eq_nil_of_length_eq_zero h0
    subst hr
    clear hpb h0 hmb HR HT HSN hpa hll ha h5 hma
    generalize s.length = S at *
    go_enter Try.func82, Try.ntmps82
    go_wp2
    go_loop [5, 10] (fun q i => q = .int .i64 0 ∧ i = .int .i64 0) (fun _ _ => 0)
    case atStart => exact ⟨rfl, rfl⟩
    case round =>
      obtain ⟨rfl, rfl⟩ := hrel
      go_wp2
      go_ret
      exact ⟨rfl, rfl⟩
  · obtain ⟨gb, ob, rfl, hgb, hcb⟩ := hpb.resolve_left h0
    have hs0 : s.length ≠ 0 := by
      have := HR.out 0 (by omega)
      omega
    obtain ⟨ga, oa, rfl, hga, hca⟩ := hpa.resolve_left hs0
    have HA := hide hca; have HB := hide hcb
    obtain ⟨n, hn⟩ : ∃ n, n = l.length := ⟨_, rfl⟩
    have HN := hide hn
    obtain ⟨S, hS⟩ : ∃ S, S = s.length := ⟨_, rfl⟩
    have HS := hide hS
    have HE := hide (show totalL s l = totalL s (l.take n) by rw [hn, List.take_length])
    rw [HE.out]
    rw [← hn] at hmb hll ⊢
    rw [← hS] at hma h5 hll ⊢
    clear hpa hpb hca hcb h0 hs0 hn hS ha HE
    go_enter Try.func82, Try.ntmps82
    go_wp2
    go_loop [5, 10] (fun q i => ∃ t : Nat, t ≤ n ∧ i = .int .i64 t ∧ q = .int .i64 (totalL s (l.take t))) (fun _ i => n - (intOf i).toNat)
    case atStart => exact ⟨0, Nat.zero_le _, rfl, rfl⟩
    case round =>
      obtain ⟨t, ht, rfl, rfl⟩ := hrel
      obtain ⟨ht1, ht2⟩ := HT.out t
      have htl : (l.take t).length ≤ t := by rw [List.length_take]; omega
      by_cases hlt : t < n
      · have hk : t < l.length := by rw [← HN.out]; exact hlt
        have hy := HB.out t hk
        obtain ⟨hr1, hr2⟩ := HR.out t hk
        have hsn := HSN.out t hk
        have hg : l.getD t 0 = l[t] := by rw [List.getD_eq_getElem?_getD, List.getElem?_eq_getElem hk, Option.getD_some]
        rw [hg] at hr1 hr2
        obtain ⟨x, hxx⟩ : ∃ x : Nat, (x : Int) = l[t] := ⟨l[t].toNat, by omega⟩
        rw [← hxx] at hy hr2 hsn
        rw [← HS.out] at hr2
        have hxs : x < s.length := by rw [← HS.out]; omega
        have hz := HA.out x hxs
        have hgs : s.getD (x : Int).toNat 0 = s[x] := by rw [Int.toNat_natCast, List.getD_eq_getElem?_getD, List.getElem?_eq_getElem hxs, Option.getD_some]
        have hzr := hx s[x] (List.getElem_mem hxs)
        rw [hgs] at hsn
        have HST := hide hsn
        obtain ⟨z, hzz⟩ : ∃ z, z = s[x] := ⟨_, rfl⟩
        rw [← hzz] at hz hzr HST
        obtain ⟨q, hq⟩ : ∃ q, q = totalL s (l.take t) := ⟨_, rfl⟩
        rw [← hq] at ht1 ht2 HST ⊢
        have hx5 : (x : Int) < (S : Int) := hr2
        obtain ⟨hz1, hz2⟩ := hzr
        have hq2 : q ≤ 25 := by omega
        clear hsn hg hxx hgs hzz hq hr1 ht2
        go_wp2
        go_round
        case rel => exact ⟨t + 1, by omega, by go_num, by rw [HST.out]⟩
        case measure => simp [intOf]; omega
      · obtain rfl : t = n := by omega
        go_wp2
        go_ret
        exact ⟨rfl, rfl⟩
set_option maxHeartbeats 1000000 in
theorem ascends_any (v : Value) (l : List Int) (n : Nat) (w : World) (hn : n ≤ 5) (hin : InRow w v l) :
    Calls Try.prog 47 #[v, .int .i64 n] w fun e w' => e = .returned (.bool (ascB n l)) ∧ w = w' := by
  obtain ⟨a, c, rfl, hm, hp⟩ := hin
  unfold maxLen at hm
  by_cases h0 : l.length = 0
  · have hr : l = [] := List.eq_nil_of_length_eq_zero h0
    subst hr
    clear hp h0 hm
    go_enter Try.func47, Try.ntmps47
    go_wp2
    go_loop [10] (fun i => i = .int .i64 0) (fun _ => 0)
    case atStart => rfl
    case round =>
      obtain rfl := hrel
      go_wp2
      go_ret
      exact ⟨rfl, rfl⟩
  · obtain ⟨gr, o, rfl, hg, hc⟩ := hp.resolve_left h0
    have HC := hide hc
    obtain ⟨k, hk⟩ : ∃ k, k = l.length := ⟨_, rfl⟩
    have HN := hide hk
    rw [← hk] at hm ⊢
    clear hp hc h0 hk
    go_enter Try.func47, Try.ntmps47
    go_wp2
    go_loop [5, 10] (fun q i => ∃ t : Nat, t ≤ k ∧ i = .int .i64 t ∧ (∀ j, j < t → ascP n l j = true) ∧ ∃ z : Int, q = .int .i64 z ∧ (0 ≤ z ∧ z ≤ 5) ∧ ((t = 0 ∧ z = 0) ∨ (0 < t ∧ z = l.getD (t - 1) 0 + 1))) (fun _ i => k - (intOf i).toNat)
    case atStart => exact ⟨0, Nat.zero_le _, rfl, fun j h => absurd h (Nat.not_lt_zero _), 0, rfl, by omega, .inl ⟨rfl, rfl⟩⟩
    case round =>
      obtain ⟨t, ht, rfl, hall, z, rfl, hz, hzz⟩ := hrel
      have HA := hide hall; have HZ := hide hzz
      clear hall hzz
      obtain ⟨hz1, hz2⟩ := hz
      by_cases hlt : t < k
      · have ht' : t < l.length := by rw [← HN.out]; exact hlt
        have hx := HC.out t ht'
        have hg : l.getD t 0 = l[t] := by rw [List.getD_eq_getElem?_getD, List.getElem?_eq_getElem ht', Option.getD_some]
        obtain ⟨x, hxx⟩ : ∃ x, x = l[t] := ⟨_, rfl⟩
        rw [← hxx] at hx hg
        have HG := hide hg
        have HP : Hid (ascP n l t = (decide (0 ≤ x ∧ x < n) && decide (z ≤ x))) := hide (by
          unfold ascP
          rw [hg]
          rcases HZ.out with ⟨h1, h2⟩ | ⟨h1, h2⟩
          · subst h1; rw [h2]
            by_cases h : 0 ≤ x
            · simp [h]
            · simp [h]
          · have e1 : (t == 0) = false := by simp; omega
            rw [e1, Bool.false_or, h2]
            congr 1)
        clear hg hxx
        by_cases e1 : x < z
        · have HF := hide (asc_no ht' (by rw [HP.out, decide_eq_false (show ¬ z ≤ x by omega), Bool.and_false] : ascP n l t = false))
          go_wp2
          go_ret
          exact ⟨ret_bool HF.out.symm, rfl⟩
        · by_cases e2 : x < n
          · have HT : Hid (ascP n l t = true) := hide (by rw [HP.out, decide_eq_true (by omega), decide_eq_true (by omega)]; rfl)
            clear HP
            go_wp2
            go_round
            case rel => exact ⟨t + 1, by omega, by go_num, fun j hj => by
              by_cases e : j = t
              · subst e; exact HT.out
              · exact HA.out j (by omega), x + 1, by go_num, by omega, .inr ⟨by omega, by rw [Nat.add_sub_cancel, HG.out]⟩⟩
            case measure => simp [intOf]; omega
          · have HF := hide (asc_no ht' (by rw [HP.out, decide_eq_false (show ¬ (0 ≤ x ∧ x < n) by omega), Bool.false_and] : ascP n l t = false))
            go_wp2
            go_ret
            exact ⟨ret_bool HF.out.symm, rfl⟩
      · have HY := hide (asc_yes (n := n) fun j hj => HA.out j (by have := HN.out; omega))
        go_wp2
        go_ret
        exact ⟨ret_bool HY.out.symm, rfl⟩

/-- The four ways a cell counts. -/
theorem cellC_add {a d : Bool} {v : Int} (h : (a && !d && !(v == 0)) = true) : cellC a d v = 1 := by
  unfold cellC
  simp only [Bool.and_eq_true, Bool.not_eq_true'] at h
  rw [h.1.1, h.1.2, h.2]; rfl
theorem cellC_sub {a d : Bool} {v : Int} (h : (!a && d && v == 1) = true) : cellC a d v = -1 := by
  unfold cellC
  simp only [Bool.and_eq_true, Bool.not_eq_true'] at h
  rw [h.1.1, h.1.2, h.2]; rfl
theorem cellC_none {a d : Bool} {v : Int} (h1 : (a && !d && !(v == 0)) = false) (h2 : (!a && d && v == 1) = false) : cellC a d v = 0 := by
  unfold cellC
  rw [h1, h2]; rfl
/-- What is known of a mask and its sums. -/
structure MaskIn (w : World) (vk : Value) (k : List (List Int)) (R C : Nat) : Prop where
  mat : InMat w vk k
  rows : k.length = R
  wide : ∀ y, (h : y < k.length) → k[y].length = C
  r5 : 1 ≤ R ∧ R ≤ 5
  c5 : 1 ≤ C ∧ C ≤ 5
theorem maskIn_of {w : World} {vk : Value} {k : List (List Int)} {r c : List Int} (hk : InMat w vk k) (h : maskB k r c = true) : MaskIn w vk k r.length c.length := by
  obtain ⟨hs, hl, hw⟩ := mask_parts h
  obtain ⟨hr, hc, -⟩ := sumsOk_yes hs
  refine ⟨hk, hl, fun y hy => ?_, hr, hc⟩
  have := (hw y (by omega)).1
  rwa [List.getD_eq_getElem?_getD, List.getElem?_eq_getElem hy, Option.getD_some] at this
theorem roomR_snoc (k : List (List Int)) (l o : List Int) (y x : Nat) {row : List Int} {v : Int} (hr : k.getD y [] = row) (hv : row.getD x 0 = v) : roomR k l o y (x + 1) = roomR k l o y x + cellC (hasB l y) (hasB o x) v := by
  subst hr; subst hv; rfl
theorem roomP_snoc (k : List (List Int)) (l o : List Int) (C y : Nat) : roomP k l o C (y + 1) = roomP k l o C y + roomR k l o y C := rfl

set_option maxRecDepth 100000 in
set_option maxHeartbeats 2000000 in
theorem roomIn_any (vk vl vo : Value) (k : List (List Int)) (l o : List Int) (R C : Nat) (w : World) (hm : MaskIn w vk k R C) (hl : InRow w vl l) (ho : InRow w vo o) :
    Calls Try.prog 83 #[vk, vl, vo] w fun e w' => e = .returned (.int .i64 (roomP k l o C R)) ∧ w = w' := by
  have HL := hide fun y => containsInt_any vl l y w hl
  have HO := hide fun x => containsInt_any vo o x w ho
  obtain ⟨hin, hkR, hkC, ⟨hR1, hR5⟩, hC1, hC5⟩ := hm
  have HP := hide (roomP_range k l o C hC5)
  have HQ := hide (roomR_range k l o)
  obtain ⟨al, cl, rfl, -, -⟩ := hl
  obtain ⟨ao, co, rfl, -, -⟩ := ho
  obtain ⟨ak, ck, rfl, hmk, hpk⟩ := hin
  unfold maxLen at hmk
  obtain ⟨g, og, rfl, hg, hcell⟩ := hpk.resolve_left (by omega)
  have HC := hide hcell; have HKC := hide hkC; have HKR := hide hkR
  generalize l.length = nl at *
  generalize o.length = no at *
  rw [hkR] at hmk ⊢
  clear hpk hcell hkC hkR
  go_enter Try.func83, Try.ntmps83
  go_wp2
  go_loop [7, 16] (fun q i => ∃ y : Nat, y ≤ R ∧ i = .int .i64 y ∧ q = .int .i64 (roomP k l o C y)) (fun _ i => R - (intOf i).toNat)
  case atStart => exact ⟨0, Nat.zero_le _, rfl, rfl⟩
  case round =>
    obtain ⟨y, hy, rfl, rfl⟩ := hrel
    by_cases hlt : y < R
    · have hyk : y < k.length := by rw [HKR.out]; exact hlt
      obtain ⟨u, hx, hr⟩ := HC.out y hyk
      obtain ⟨ar, cr, rfl, hmr, hpr⟩ := hr
      unfold maxLen at hmr
      have hw := HKC.out y hyk
      obtain ⟨row, hrow⟩ : ∃ row, row = k[y] := ⟨_, rfl⟩
      have HG := hide (show k.getD y [] = row by rw [List.getD_eq_getElem?_getD, List.getElem?_eq_getElem hyk, Option.getD_some, hrow])
      rw [← hrow] at hx hmr hpr hw
      obtain ⟨gr, og2, rfl, hgr, hcr⟩ := hpr.resolve_left (by omega)
      have HCR := hide hcr; have HW := hide hw
      rw [hw] at hx hmr
      obtain ⟨hp1, hp2⟩ := HP.out y
      have HPS := hide (roomP_snoc k l o C y)
      obtain ⟨rp, hrp⟩ : ∃ rp, rp = roomP k l o C y := ⟨_, rfl⟩
      rw [← hrp] at hp1 hp2 HPS ⊢
      have HIL := hide (HL.out y)
      obtain ⟨bl, hbl⟩ : ∃ bl, bl = hasB l y := ⟨_, rfl⟩
      have HBL := hide hbl
      rw [← hbl] at HIL
      clear hpr hcr hw hrow hrp hbl
      go_wp2_with (go_at_call 107; refine HIL.out.mono ?_; rintro e w9 ⟨rfl, rfl⟩)
      go_loop [7, 26] (fun q i => ∃ x : Nat, x ≤ C ∧ i = .int .i64 x ∧ q = .int .i64 (rp + roomR k l o y x)) (fun _ i => C - (intOf i).toNat)
      case atStart => exact ⟨0, Nat.zero_le _, rfl, by simp [roomR, Mx.S]⟩
      case round =>
        obtain ⟨x, hxC, rfl, rfl⟩ := hrel
        obtain ⟨hq1, hq2⟩ := HQ.out y x
        by_cases hlx : x < C
        · have hxr : x < row.length := by rw [HW.out]; exact hlx
          have hv := HCR.out x hxr
          have HRS := hide (roomR_snoc k l o y x HG.out (v := row[x]) (by rw [List.getD_eq_getElem?_getD, List.getElem?_eq_getElem hxr, Option.getD_some]))
          obtain ⟨v, hvv⟩ : ∃ v, v = row[x] := ⟨_, rfl⟩
          rw [← hvv, ← HBL.out] at HRS
          rw [← hvv] at hv
          have HIO := hide (HO.out x)
          obtain ⟨d, hd⟩ : ∃ d, d = hasB o x := ⟨_, rfl⟩
          rw [← hd] at HIO HRS
          obtain ⟨rr, hrr⟩ : ∃ rr, rr = roomR k l o y x := ⟨_, rfl⟩
          rw [← hrr] at hq1 hq2 HRS ⊢
          clear hvv hd hrr
          cases bl with
          | true =>
            cases d with
            | true =>
              have HZ := hide (cellC_none (a := true) (d := true) (v := v) rfl rfl)
              go_wp2_with (go_at_call 107; refine HIO.out.mono ?_; rintro e w9 ⟨rfl, rfl⟩)
              go_round
              case rel => exact ⟨x + 1, by omega, by go_num, by rw [HRS.out, HZ.out, Int.add_zero]⟩
              case measure => simp [intOf]; omega
            | false =>
              by_cases e0 : v = 0
              · subst e0
                have HZ := hide (cellC_none (a := true) (d := false) (v := 0) rfl rfl)
                go_wp2_with (go_at_call 107; refine HIO.out.mono ?_; rintro e w9 ⟨rfl, rfl⟩)
                go_round
                case rel => exact ⟨x + 1, by omega, by go_num, by rw [HRS.out, HZ.out, Int.add_zero]⟩
                case measure => simp [intOf]; omega
              · have b0 : (v != 0) = true := by simp [e0]
                have HZ := hide (cellC_add (a := true) (d := false) (v := v) (by simp [e0]))
                go_wp2_with (go_at_call 107; refine HIO.out.mono ?_; rintro e w9 ⟨rfl, rfl⟩)
                go_round
                case rel => exact ⟨x + 1, by omega, by go_num, by rw [HRS.out, HZ.out, Int.add_assoc]⟩
                case measure => simp [intOf]; omega
          | false =>
            cases d with
            | false =>
              have HZ := hide (cellC_none (a := false) (d := false) (v := v) rfl rfl)
              go_wp2_with (go_at_call 107; refine HIO.out.mono ?_; rintro e w9 ⟨rfl, rfl⟩)
              go_round
              case rel => exact ⟨x + 1, by omega, by go_num, by rw [HRS.out, HZ.out, Int.add_zero]⟩
              case measure => simp [intOf]; omega
            | true =>
              by_cases e1 : v = 1
              · subst e1
                have HZ := hide (cellC_sub (a := false) (d := true) (v := 1) rfl)
                go_wp2_with (go_at_call 107; refine HIO.out.mono ?_; rintro e w9 ⟨rfl, rfl⟩)
                go_round
                case rel => exact ⟨x + 1, by omega, by go_num, by rw [HRS.out, HZ.out, ← Int.add_assoc]; rfl⟩
                case measure => simp [intOf]; omega
              · have b1 : (v == 1) = false := by simp [e1]
                have HZ := hide (cellC_none (a := false) (d := true) (v := v) rfl (by simp [e1]))
                go_wp2_with (go_at_call 107; refine HIO.out.mono ?_; rintro e w9 ⟨rfl, rfl⟩)
                go_round
                case rel => exact ⟨x + 1, by omega, by go_num, by rw [HRS.out, HZ.out, Int.add_zero]⟩
                case measure => simp [intOf]; omega
        · obtain rfl : x = C := by omega
          go_wp2
          go_round
          case rel => exact ⟨y + 1, by omega, by go_num, by rw [HPS.out]⟩
          case measure => simp [intOf]; omega
    · obtain rfl : y = R := by omega
      go_wp2
      go_ret
      exact ⟨rfl, rfl⟩
/-- What is known of sums. -/
theorem sums_cells {r c : List Int} (h : sumsOk r c = true) : (∀ x ∈ r, 0 ≤ x ∧ x ≤ 5) ∧ ∀ x ∈ c, 0 ≤ x ∧ x ≤ 5 := by
  obtain ⟨hr, hc, hrb, hcb, -⟩ := sumsOk_yes h
  constructor
  · intro x hx
    rw [List.any_eq_false] at hrb
    have := hrb x hx
    simp only [badB, Bool.or_eq_true, decide_eq_true_eq, not_or] at this
    omega
  · intro x hx
    rw [List.any_eq_false] at hcb
    have := hcb x hx
    simp only [badB, Bool.or_eq_true, decide_eq_true_eq, not_or] at this
    omega
set_option maxHeartbeats 1000000 in
theorem conflicts_any (vk vr vc vl vo : Value) (k : List (List Int)) (r c l o : List Int) (w : World) (hk : InMat w vk k) (hr : InRow w vr r) (hc : InRow w vc c) (hl : InRow w vl l) (ho : InRow w vo o) (hm : maskB k r c = true) (ha : ascB r.length l = true) (hb : ascB c.length o = true) :
    Calls Try.prog 48 #[vk, vr, vc, vl, vo] w fun e w' => e = .returned (.bool (confB k r c l o)) ∧ w = w' := by
  have hM := maskIn_of hk hm
  obtain ⟨hs, -⟩ := mask_parts hm
  obtain ⟨hx, hy⟩ := sums_cells hs
  have HT1 := hide (totalAt_any vr vl r l w hr hl hM.r5.2 hx ha)
  have HT2 := hide (totalAt_any vc vo c o w hc ho hM.c5.2 hy hb)
  have HRM := hide (roomIn_any vk vl vo k l o _ _ w hM hl ho)
  have ht1 := totalL_range r l hx
  have ht2 := totalL_range c o hy
  have hl1 := asc_len (Int.natCast_nonneg _) ha
  have hl2 := asc_len (Int.natCast_nonneg _) hb
  have hrp := roomP_range k l o c.length hM.c5.2 r.length
  have hr5 := hM.r5; have hc5 := hM.c5
  have HCB := hide (show confB k r c l o = decide (roomP k l o c.length r.length < totalL r l - totalL c o) from rfl)
  rw [HCB.out]
  have h1 : 0 ≤ totalL r l ∧ totalL r l ≤ 25 := by omega
  have h2 : 0 ≤ totalL c o ∧ totalL c o ≤ 25 := by omega
  obtain ⟨h1a, h1b⟩ := h1
  obtain ⟨h2a, h2b⟩ := h2
  obtain ⟨A, hA⟩ : ∃ A, A = totalL r l := ⟨_, rfl⟩
  obtain ⟨B, hB⟩ : ∃ B, B = totalL c o := ⟨_, rfl⟩
  obtain ⟨Q, hQ⟩ : ∃ Q, Q = roomP k l o c.length r.length := ⟨_, rfl⟩
  rw [← hA] at HT1 h1a h1b ⊢
  rw [← hB] at HT2 h2a h2b ⊢
  rw [← hQ] at HRM ⊢
  clear hM hs hx hy ht1 ht2 hl1 hl2 hrp hr5 hc5 HCB hA hB hQ hm ha hb
  obtain ⟨ak, ck, rfl, -, -⟩ := hk
  obtain ⟨ar, cr, rfl, -, -⟩ := hr
  obtain ⟨ac, cc, rfl, -, -⟩ := hc
  obtain ⟨al, cl, rfl, -, -⟩ := hl
  obtain ⟨ao, co, rfl, -, -⟩ := ho
  generalize k.length = n1 at *
  generalize r.length = n2 at *
  generalize c.length = n3 at *
  generalize l.length = n4 at *
  generalize o.length = n5 at *
  go_enter Try.func48, Try.ntmps48
  go_wp2_with fail
  refine HT1.out.mono ?_
  rintro e w' ⟨rfl, rfl⟩
  go_wp2_with fail
  refine HT2.out.mono ?_
  rintro e w' ⟨rfl, rfl⟩
  go_wp2_with fail
  refine HRM.out.mono ?_
  rintro e w' ⟨rfl, rfl⟩
  go_wp2
  go_ret
  exact ⟨ret_bool (by simp), rfl⟩
set_option maxRecDepth 100000 in
set_option maxHeartbeats 1000000 in
theorem implHasConf_any (vk vr vc vl vo : Value) (k : List (List Int)) (r c l o : List Int) (w : World) (hk : InMat w vk k) (hr : InRow w vr r) (hc : InRow w vc c) (hl : InRow w vl l) (ho : InRow w vo o) :
    Calls Try.prog 13 #[vk, vr, vc, vl, vo] w fun e w' => e = .returned (.bool (hasConfB k r c l o)) ∧ Below w.heap.size w w' := by
  have HMO := hide (implMaskOk_any vk vr vc k r c w hk hr hc)
  have HA := hide fun w' (hw : Below w.heap.size w w') (h5 : r.length ≤ 5) => ascends_any vl l r.length w' h5 (inRow_below hl hw)
  have HB := hide fun w' (hw : Below w.heap.size w w') (h5 : c.length ≤ 5) => ascends_any vo o c.length w' h5 (inRow_below ho hw)
  have HC := hide fun w' (hw : Below w.heap.size w w') hm ha hb => conflicts_any vk vr vc vl vo k r c l o w' (inMat_below hk hw) (inRow_below hr hw) (inRow_below hc hw) (inRow_below hl hw) (inRow_below ho hw) hm ha hb
  have HD := hide (show hasConfB k r c l o = (maskB k r c && ascB r.length l && ascB c.length o && confB k r c l o) from rfl)
  rw [HD.out]
  cases h1 : maskB k r c with
  | false =>
    rw [h1] at HMO
    clear HA HB HC HD h1
    obtain ⟨ak, ck, rfl, -, -⟩ := hk
    obtain ⟨ar, cr, rfl, -, -⟩ := hr
    obtain ⟨ac, cc, rfl, -, -⟩ := hc
    obtain ⟨al, cl, rfl, -, -⟩ := hl
    obtain ⟨ao, co, rfl, -, -⟩ := ho
    generalize k.length = n1 at *
    generalize r.length = n2 at *
    generalize c.length = n3 at *
    generalize l.length = n4 at *
    generalize o.length = n5 at *
    go_enter Try.func13, Try.ntmps13
    go_wp2_with (go_at_call 12; refine HMO.out.mono ?_; rintro e w1 ⟨rfl, b1⟩; have B1 := hide b1; clear b1)
    go_ret
    exact ⟨rfl, B1.out⟩
  | true =>
    rw [h1] at HMO HC
    obtain ⟨hs, -⟩ := mask_parts h1
    obtain ⟨hr5, hc5, -⟩ := sumsOk_yes hs
    have HA := hide fun w' (hw : Below w.heap.size w w') => HA.out w' hw hr5.2
    have HB := hide fun w' (hw : Below w.heap.size w w') => HB.out w' hw hc5.2
    have HC := hide fun w' (hw : Below w.heap.size w w') => HC.out w' hw rfl
    obtain ⟨p, hp⟩ : ∃ p, p = ascB r.length l := ⟨_, rfl⟩
    obtain ⟨q, hq⟩ : ∃ q, q = ascB c.length o := ⟨_, rfl⟩
    obtain ⟨t, htt⟩ : ∃ t, t = confB k r c l o := ⟨_, rfl⟩
    rw [← hp] at HA HC ⊢
    rw [← hq] at HB HC ⊢
    rw [← htt] at HC ⊢
    clear HD h1 hs hr5 hc5 hp hq htt
    obtain ⟨ak, ck, rfl, -, -⟩ := hk
    obtain ⟨ar, cr, rfl, -, -⟩ := hr
    obtain ⟨ac, cc, rfl, -, -⟩ := hc
    obtain ⟨al, cl, rfl, -, -⟩ := hl
    obtain ⟨ao, co, rfl, -, -⟩ := ho
    generalize k.length = n1 at *
    generalize r.length = n2 at *
    generalize c.length = n3 at *
    generalize l.length = n4 at *
    generalize o.length = n5 at *
    cases p with
    | false =>
      go_enter Try.func13, Try.ntmps13
      go_wp2_with (first | (go_at_call 12; refine HMO.out.mono ?_; rintro e w1 ⟨rfl, b1⟩; have B1 := hide b1; clear b1) | ((with_reducible refine (HA.out _ B1.out).mono ?_); rintro e w2 ⟨rfl, rfl⟩))
      go_ret
      exact ⟨rfl, B1.out⟩
    | true =>
      cases q with
      | false =>
        go_enter Try.func13, Try.ntmps13
        go_wp2_with (first | (go_at_call 12; refine HMO.out.mono ?_; rintro e w1 ⟨rfl, b1⟩; have B1 := hide b1; clear b1) | ((with_reducible refine (HA.out _ B1.out).mono ?_); rintro e w2 ⟨rfl, rfl⟩) | ((with_reducible refine (HB.out _ B1.out).mono ?_); rintro e w2 ⟨rfl, rfl⟩))
        go_ret
        exact ⟨rfl, B1.out⟩
      | true =>
        have HC3 := hide fun w' (hw : Below w.heap.size w w') => HC.out w' hw rfl rfl
        clear HC
        go_enter Try.func13, Try.ntmps13
        go_wp2_with (first | (go_at_call 12; refine HMO.out.mono ?_; rintro e w1 ⟨rfl, b1⟩; have B1 := hide b1; clear b1) | ((with_reducible refine (HA.out _ B1.out).mono ?_); rintro e w2 ⟨rfl, rfl⟩) | ((with_reducible refine (HB.out _ B1.out).mono ?_); rintro e w2 ⟨rfl, rfl⟩) | ((with_reducible refine (HC3.out _ B1.out).mono ?_); rintro e w2 ⟨rfl, rfl⟩))
        go_ret
        exact ⟨ret_bool (by simp), B1.out⟩
end Go.Proofs.Ytjgkblgilnfpfaa
/-
  All pairs of lists, as bits: one of them has a conflict exactly if no image meets the mask.
-/
namespace Go.Proofs.Ytjgkblgilnfpfaa
open Go.RowKit Mx

/-- The numbers below n whose bits are set in k. -/
def bitsL (k n : Nat) : List Int := ((List.range n).filter fun i => k / 2 ^ i % 2 == 1).map Int.ofNat
theorem bitsL_succ (k n : Nat) : bitsL k (n + 1) = bitsL k n ++ if k / 2 ^ n % 2 == 1 then [(n : Int)] else [] := by
  unfold bitsL
  rw [List.range_succ, List.filter_append, List.map_append]
  cases h : (k / 2 ^ n % 2 == 1) <;> simp [h]
theorem bitsL_len (k n : Nat) : (bitsL k n).length ≤ n := by
  unfold bitsL
  rw [List.length_map]
  exact Nat.le_trans (List.length_filter_le _ _) (by simp)
theorem mem_bitsL {k n : Nat} {x : Int} : x ∈ bitsL k n ↔ ∃ i : Nat, x = i ∧ i < n ∧ k / 2 ^ i % 2 = 1 := by
  unfold bitsL
  simp only [List.mem_map, List.mem_filter, List.mem_range, beq_iff_eq]
  constructor
  · rintro ⟨i, ⟨h1, h2⟩, rfl⟩; exact ⟨i, rfl, h1, h2⟩
  · rintro ⟨i, rfl, h1, h2⟩; exact ⟨i, ⟨h1, h2⟩, rfl⟩
theorem hasB_bits {k n y : Nat} (hy : y < n) : hasB (bitsL k n) y = (k / 2 ^ y % 2 == 1) := by
  rw [Bool.eq_iff_iff]
  unfold hasB
  rw [List.any_eq_true, beq_iff_eq]
  constructor
  · rintro ⟨x, hx, e⟩
    obtain ⟨i, rfl, h1, h2⟩ := mem_bitsL.1 hx
    simp at e
    obtain rfl : i = y := by omega
    exact h2
  · intro h
    exact ⟨(y : Int), mem_bitsL.2 ⟨y, rfl, hy, h⟩, by simp⟩
theorem asc_bits (k n : Nat) : ascB n (bitsL k n) = true := by
  have hp : (bitsL k n).Pairwise (· < ·) := by
    unfold bitsL
    rw [List.pairwise_map]
    exact ((List.pairwise_lt_range (n := n)).filter _).imp fun h => Int.ofNat_lt.2 h
  refine asc_yes fun t ht => ?_
  have hg : ∀ j, (hj : j < (bitsL k n).length) → (bitsL k n).getD j 0 = (bitsL k n)[j] := fun j hj => by rw [List.getD_eq_getElem?_getD, List.getElem?_eq_getElem hj, Option.getD_some]
  obtain ⟨i, h1, h2, -⟩ := mem_bitsL.1 (List.getElem_mem ht)
  unfold ascP
  rw [hg t ht, h1, decide_eq_true (by omega), Bool.true_and]
  by_cases h0 : t = 0
  · subst h0; rfl
  · have h3 := List.pairwise_iff_getElem.1 hp (t - 1) t (by omega) ht (by omega)
    rw [hg (t - 1) (by omega), ← h1, decide_eq_true h3, Bool.or_true]
/-- Any set of numbers below n is that of some bits. -/
theorem bits_all (L : Nat → Bool) : ∀ n : Nat, ∃ k, k < 2 ^ n ∧ ∀ y, y < n → (k / 2 ^ y % 2 == 1) = L y
  | 0 => ⟨0, by simp, fun y hy => absurd hy (Nat.not_lt_zero _)⟩
  | n + 1 => by
    obtain ⟨k, hk, h⟩ := bits_all L n
    have e : ∀ a y : Nat, (a / 2 ^ y % 2 == 1) = a.testBit y := fun a y => by rw [Nat.testBit_eq_decide_div_mod_eq]; exact Bool.eq_iff_iff.2 (by simp)
    cases hL : L n with
    | false =>
      refine ⟨k, by rw [Nat.pow_succ]; omega, fun y hy => ?_⟩
      by_cases hyn : y = n
      · subst hyn; rw [hL, e, Nat.testBit_lt_two_pow hk]
      · exact h y (by omega)
    | true =>
      refine ⟨2 ^ n + k, by rw [Nat.pow_succ]; omega, fun y hy => ?_⟩
      by_cases hyn : y = n
      · subst hyn; rw [hL, e, Nat.testBit_two_pow_add_eq, Nat.testBit_lt_two_pow hk]; rfl
      · rw [e, Nat.testBit_two_pow_add_gt (by omega), ← e]; exact h y (by omega)
theorem over_congr {R C : Nat} {r c : Nat → Int} {lo hi : Nat → Nat → Int} {L L' O O' : Nat → Bool} (hL : ∀ y, y < R → L y = L' y) (hO : ∀ x, x < C → O x = O' x) : over R C r c lo hi L O = over R C r c lo hi L' O' := by
  unfold over
  rw [S_congr R (f := on L r) (g := on L' r) (fun y hy => by unfold on; rw [hL y hy]), S_congr C (f := on O c) (g := on O' c) (fun x hx => by unfold on; rw [hO x hx])]
  congr 1
  exact S_congr R fun y hy => S_congr C fun x hx => by rw [hL y hy, hO x hx]
/-- Whether the pair of lists of these bits has a conflict. -/
def cfl (k : List (List Int)) (r c : List Int) (a b : Nat) : Bool := hasConfB k r c (bitsL a r.length) (bitsL b c.length)
theorem cfl_over {k : List (List Int)} {r c : List Int} (h : maskB k r c = true) (a b : Nat) : cfl k r c a b = decide (0 < over r.length c.length (fun y => r.getD y 0) (fun x => c.getD x 0) (loK k) (hiK k) (fun y => a / 2 ^ y % 2 == 1) (fun x => b / 2 ^ x % 2 == 1)) := by
  unfold cfl hasConfB
  rw [h, asc_bits, asc_bits, Bool.true_and, Bool.true_and, Bool.true_and, confB, decide_eq_decide, ← over_congr (fun y hy => hasB_bits (k := a) hy) (fun x hx => hasB_bits (k := b) hx), ← room_over k r c _ _ (asc_bits _ _) (asc_bits _ _)]
  omega
def rowAny (k : List (List Int)) (r c : List Int) (a m : Nat) : Bool := (List.range m).any (cfl k r c a)
def allAny (k : List (List Int)) (r c : List Int) (m : Nat) : Bool := (List.range m).any fun a => rowAny k r c a (2 ^ c.length)
theorem rowAny_succ (k : List (List Int)) (r c : List Int) (a m : Nat) : rowAny k r c a (m + 1) = (rowAny k r c a m || cfl k r c a m) := by
  unfold rowAny
  rw [List.range_succ, List.any_append]; simp
theorem allAny_succ (k : List (List Int)) (r c : List Int) (m : Nat) : allAny k r c (m + 1) = (allAny k r c m || rowAny k r c m (2 ^ c.length)) := by
  unfold allAny
  rw [List.range_succ, List.any_append]; simp
/-- Some pair has a conflict exactly if no image meets the mask. -/
theorem any_none {k : List (List Int)} {r c : List Int} (h : maskB k r c = true) : allAny k r c (2 ^ r.length) = decide ((maskedL k r c).length = 0) := by
  rw [Bool.eq_iff_iff, decide_eq_true_eq]
  have hiff := masked_iff h
  unfold allAny rowAny
  simp only [List.any_eq_true, List.mem_range]
  constructor
  · rintro ⟨a, ha, b, hb, hc⟩
    rw [cfl_over h, decide_eq_true_eq] at hc
    by_cases e : maskedL k r c = []
    · rw [e]; rfl
    · have := hiff.1 e (fun y => a / 2 ^ y % 2 == 1) (fun x => b / 2 ^ x % 2 == 1)
      omega
  · intro he
    have hn : ¬ ∀ L O : Nat → Bool, over r.length c.length (fun y => r.getD y 0) (fun x => c.getD x 0) (loK k) (hiK k) L O ≤ 0 := fun hall => hiff.2 hall (List.eq_nil_of_length_eq_zero he)
    simp only [Classical.not_forall] at hn
    obtain ⟨L, O, hLO⟩ := hn
    obtain ⟨a, ha, ha2⟩ := bits_all L r.length
    obtain ⟨b, hb, hb2⟩ := bits_all O c.length
    refine ⟨a, ha, b, hb, ?_⟩
    rw [cfl_over h, decide_eq_true_eq, over_congr ha2 hb2]
    omega
end Go.Proofs.Ytjgkblgilnfpfaa
