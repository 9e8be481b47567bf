/-
  Texts of this claim, one behind the other: SzB, SzC, Less, BgP.
-/
import Derived.Test.YtiajdmoppgpgnaaPackG
import Derived.Test.YtiajdmoppgpgnaaPackF
/-
  The model's check of sizes and ranges.
-/
namespace Go.Proofs.Ytiajdmoppgpgnaa
open Go.RowKit Go.Shelf

def sizeRow (C : Nat) (lo hi : Int) (q : List Int) : Bool := q.length == C && q.all fun x => decide (lo ≤ x ∧ x ≤ hi)
def sizeB (k : List (List Int)) (R C : Nat) (lo hi : Int) : Bool := k.length == R && k.all (sizeRow C lo hi)
theorem all_no {α : Type} {p : α → Bool} {l : List α} (i : Nat) (hi : i < l.length) (h : p l[i] = false) : l.all p = false := by
  rw [List.all_eq_false]
  exact ⟨l[i], List.getElem_mem hi, by simp [h]⟩
theorem all_yes {α : Type} {p : α → Bool} {l : List α} (h : ∀ i, (hi : i < l.length) → p l[i] = true) : l.all p = true := by
  rw [List.all_eq_true]
  intro x hx
  obtain ⟨i, hi, rfl⟩ := List.getElem_of_mem hx
  exact h i hi

set_option maxRecDepth 100000 in
set_option maxHeartbeats 1000000 in
theorem l08Size_any (v : Value) (m : List (List Int)) (R C : Nat) (lo hi : Int) (w : World) (hR : R ≤ 5) (hC : 1 ≤ C ∧ C ≤ 5) (hin : InMat w v m) :
    Calls Try.prog 81 #[v, .int .i64 R, .int .i64 C, .int .i64 lo, .int .i64 hi] w fun e w' => e = .returned (.bool (sizeB m R C lo hi)) ∧ w = w' := by
  obtain ⟨a, c, rfl, hm, hp⟩ := hin
  unfold maxLen at hm
  by_cases hlen : m.length = R
  · by_cases h0 : m.length = 0
    · have hr : m = [] := List.eq_nil_of_length_eq_zero h0
      subst hr
      obtain rfl : R = 0 := by simpa using hlen.symm
      clear hp h0 hm hlen hR
      go_enter Try.func81, Try.ntmps81
      go_wp2
      go_loop [21] (fun i => i = .int .i64 0) (fun _ => 0)
      case atStart => rfl
      case round =>
        obtain rfl := hrel
        go_wp2
        go_ret
        exact ⟨rfl, rfl⟩
    · obtain ⟨g, o, rfl, hg, hcell⟩ := hp.resolve_left h0
      have HC := hide hcell
      have HL := hide hlen
      have HSZ : Hid (sizeB m R C lo hi = m.all (sizeRow C lo hi)) := hide (by rw [sizeB, beq_iff_eq.2 hlen, Bool.true_and])
      rw [HSZ.out]
      rw [hlen] at hm ⊢
      clear hp hcell hlen h0
      go_enter Try.func81, Try.ntmps81
      go_wp2
      go_loop [21] (fun i => ∃ k : Nat, k ≤ R ∧ i = .int .i64 k ∧ ∀ t, (h : t < m.length) → t < k → sizeRow C lo hi m[t] = true) (fun i => R - (intOf i).toNat)
      case atStart => exact ⟨0, Nat.zero_le _, rfl, fun t _ h => absurd h (Nat.not_lt_zero _)⟩
      case round =>
        obtain ⟨k, hk, rfl, hall⟩ := hrel
        have HA := hide hall
        clear hall
        by_cases hlt : k < R
        · have hk' : k < m.length := by rw [HL.out]; exact hlt
          obtain ⟨u, hx, hr⟩ := HC.out k hk'
          obtain ⟨a', c', rfl, hm', hp'⟩ := hr
          unfold maxLen at hm'
          have HNO := hide (fun h => all_no (p := sizeRow C lo hi) k hk' h)
          obtain ⟨row, hrow⟩ : ∃ row, row = m[k] := ⟨_, rfl⟩
          have HROW := hide hrow
          rw [← hrow] at hx hm' hp' HNO
          by_cases hln : row.length = C
          · obtain ⟨g', o', rfl, hg', hcell'⟩ := hp'.resolve_left (by omega)
            have HC' := hide hcell'
            have HLN := hide hln
            rw [hln] at hx hm'
            clear hp' hcell' hrow hln
            go_wp2
            go_loop [31] (fun i => ∃ j : Nat, j ≤ C ∧ i = .int .i64 j ∧ ∀ t, (h : t < row.length) → t < j → (decide (lo ≤ row[t] ∧ row[t] ≤ hi)) = true) (fun i => C - (intOf i).toNat)
            case atStart => exact ⟨0, Nat.zero_le _, rfl, fun t _ h => absurd h (Nat.not_lt_zero _)⟩
            case round =>
              obtain ⟨j, hj, rfl, hall⟩ := hrel
              have HB := hide hall
              clear hall
              by_cases hlj : j < C
              · have hj' : j < row.length := by rw [HLN.out]; exact hlj
                have hy := HC'.out j hj'
                have HSB := hide (show decide (lo ≤ row[j] ∧ row[j] ≤ hi) = true → ∀ t, (h : t < row.length) → t < j + 1 → decide (lo ≤ row[t] ∧ row[t] ≤ hi) = true from fun hc t ht h => by
                  by_cases e : t = j
                  · subst e; exact hc
                  · exact HB.out t ht (by omega))
                have HNB := hide (show decide (lo ≤ row[j] ∧ row[j] ≤ hi) = false → m.all (sizeRow C lo hi) = false from fun h => HNO.out (by
                  rw [sizeRow, all_no (p := fun x => decide (lo ≤ x ∧ x ≤ hi)) j hj' h, Bool.and_false]))
                obtain ⟨y, hyy⟩ : ∃ y, y = row[j] := ⟨_, rfl⟩
                rw [← hyy] at hy HSB HNB
                have HCALL := hide fun w' => l01In_any y lo hi w'
                obtain ⟨q, hq⟩ : ∃ q, q = decide (lo ≤ y ∧ y ≤ hi) := ⟨_, rfl⟩
                rw [← hq] at HCALL HSB HNB
                clear hyy hq
                cases q with
                | true =>
                  have HS2 := hide (HSB.out rfl)
                  clear HNB HSB
                  go_wp2_with (go_at_call 57; refine (HCALL.out _).mono ?_; rintro e w9 ⟨rfl, rfl⟩)
                  go_round
                  case rel => exact ⟨j + 1, by omega, by go_num, HS2.out⟩
                  case measure => simp [intOf]; omega
                | false =>
                  have HF := hide (HNB.out rfl)
                  clear HSB HNB
                  go_wp2_with (go_at_call 57; refine (HCALL.out _).mono ?_; rintro e w9 ⟨rfl, rfl⟩)
                  go_ret
                  exact ⟨ret_bool HF.out.symm, rfl⟩
              · have HST : Hid (∀ t, (h : t < m.length) → t < k + 1 → sizeRow C lo hi m[t] = true) := hide fun t h1 ht => by
                  by_cases e : t = k
                  · subst e
                    rw [← HROW.out, sizeRow, beq_iff_eq.2 HLN.out, Bool.true_and]
                    exact all_yes fun i hi => HB.out i hi (by have := HLN.out; omega)
                  · exact HA.out t h1 (by omega)
                go_wp2
                go_round
                case rel => exact ⟨k + 1, by omega, by go_num, HST.out⟩
                case measure => simp [intOf]; omega
          · have HF := hide (HNO.out (by rw [sizeRow, beq_eq_false_iff_ne.2 hln, Bool.false_and]))
            obtain ⟨n, hn⟩ : ∃ n, n = row.length := ⟨_, rfl⟩
            rw [← hn] at hx hm' hln
            have hne : ((n : Int) != (C : Int)) = true := by simp; omega
            clear hn hp' hrow
            go_wp2
            go_ret
            exact ⟨ret_bool HF.out.symm, rfl⟩
        · have HY := hide (all_yes (p := sizeRow C lo hi) fun t ht => HA.out t ht (by have := HL.out; omega))
          go_wp2
          go_ret
          exact ⟨ret_bool HY.out.symm, rfl⟩
  · have HF : Hid (sizeB m R C lo hi = false) := hide (by rw [sizeB, beq_eq_false_iff_ne.2 hlen, Bool.false_and])
    rw [HF.out]
    obtain ⟨n, hn⟩ : ∃ n, n = m.length := ⟨_, rfl⟩
    rw [← hn] at hlen hm ⊢
    have hne : ((n : Int) != (R : Int)) = true := by simp; omega
    clear hn hp hlen
    go_enter Try.func81, Try.ntmps81
    go_wp2
    go_ret
    exact ⟨rfl, rfl⟩
end Go.Proofs.Ytiajdmoppgpgnaa
/-
  The model's check of sizes and ranges, for sizes without a bound.
-/
namespace Go.Proofs.Ytiajdmoppgpgnaa
open Go.RowKit Go.Shelf

set_option maxRecDepth 100000 in
set_option maxHeartbeats 1000000 in
theorem l08Size_big (v : Value) (m : List (List Int)) (R C : Nat) (lo hi : Int) (w : World) (hR : R ≤ 9223372036854775807) (hC : C ≤ 9223372036854775807) (hin : InMat w v m) :
    Calls Try.prog 81 #[v, .int .i64 R, .int .i64 C, .int .i64 lo, .int .i64 hi] w fun e w' => e = .returned (.bool (sizeB m R C lo hi)) ∧ w = w' := by
  obtain ⟨a, c, rfl, hm, hp⟩ := hin
  unfold maxLen at hm
  by_cases hlen : m.length = R
  · by_cases h0 : m.length = 0
    · have hr : m = [] := List.eq_nil_of_length_eq_zero h0
      subst hr
      obtain rfl : R = 0 := by simpa using hlen.symm
      clear hp h0 hm hlen hR
      go_enter Try.func81, Try.ntmps81
      go_wp2
      go_loop [21] (fun i => i = .int .i64 0) (fun _ => 0)
      case atStart => rfl
      case round =>
        obtain rfl := hrel
        go_wp2
        go_ret
        exact ⟨rfl, rfl⟩
    · obtain ⟨g, o, rfl, hg, hcell⟩ := hp.resolve_left h0
      have HC := hide hcell
      have HL := hide hlen
      have HSZ : Hid (sizeB m R C lo hi = m.all (sizeRow C lo hi)) := hide (by rw [sizeB, beq_iff_eq.2 hlen, Bool.true_and])
      rw [HSZ.out]
      rw [hlen] at hm ⊢
      clear hp hcell hlen h0
      go_enter Try.func81, Try.ntmps81
      go_wp2
      go_loop [21] (fun i => ∃ k : Nat, k ≤ R ∧ i = .int .i64 k ∧ ∀ t, (h : t < m.length) → t < k → sizeRow C lo hi m[t] = true) (fun i => R - (intOf i).toNat)
      case atStart => exact ⟨0, Nat.zero_le _, rfl, fun t _ h => absurd h (Nat.not_lt_zero _)⟩
      case round =>
        obtain ⟨k, hk, rfl, hall⟩ := hrel
        have HA := hide hall
        clear hall
        by_cases hlt : k < R
        · have hk' : k < m.length := by rw [HL.out]; exact hlt
          obtain ⟨u, hx, hr⟩ := HC.out k hk'
          obtain ⟨a', c', rfl, hm', hp'⟩ := hr
          unfold maxLen at hm'
          have HNO := hide (fun h => all_no (p := sizeRow C lo hi) k hk' h)
          obtain ⟨row, hrow⟩ : ∃ row, row = m[k] := ⟨_, rfl⟩
          have HROW := hide hrow
          rw [← hrow] at hx hm' hp' HNO
          by_cases hln : row.length = C
          · by_cases hC0 : C = 0
            · subst hC0
              have hrn : row = [] := List.eq_nil_of_length_eq_zero hln
              have HLN := hide hln
              have HST : Hid (∀ t, (h : t < m.length) → t < k + 1 → sizeRow 0 lo hi m[t] = true) := hide fun t h1 ht => by
                by_cases e : t = k
                · subst e
                  rw [← HROW.out, hrn]; rfl
                · exact HA.out t h1 (by omega)
              rw [hln] at hx hm'
              clear hp' hrow hln hrn
              go_wp2
              go_loop [31] (fun i => ∃ j : Nat, j ≤ 0 ∧ i = .int .i64 j) (fun i => 0 - (intOf i).toNat)
              case atStart => exact ⟨0, Nat.le_refl _, rfl⟩
              case round =>
                obtain ⟨j, hj, rfl⟩ := hrel
                obtain rfl : j = 0 := by omega
                go_wp2
                go_round
                case rel =>
                  exact ⟨_, _, _, .int .i64 ((k : Int) + 1), ⟨k + 1, by omega, by simp, HST.out⟩, rfl, rfl, rfl, rfl⟩
                case measure => simp [intOf]; omega
            obtain ⟨g', o', rfl, hg', hcell'⟩ := hp'.resolve_left (by omega)
            have HC' := hide hcell'
            have HLN := hide hln
            rw [hln] at hx hm'
            clear hp' hcell' hrow hln
            go_wp2
            go_loop [31] (fun i => ∃ j : Nat, j ≤ C ∧ i = .int .i64 j ∧ ∀ t, (h : t < row.length) → t < j → (decide (lo ≤ row[t] ∧ row[t] ≤ hi)) = true) (fun i => C - (intOf i).toNat)
            case atStart => exact ⟨0, Nat.zero_le _, rfl, fun t _ h => absurd h (Nat.not_lt_zero _)⟩
            case round =>
              obtain ⟨j, hj, rfl, hall⟩ := hrel
              have HB := hide hall
              clear hall
              by_cases hlj : j < C
              · have hj' : j < row.length := by rw [HLN.out]; exact hlj
                have hy := HC'.out j hj'
                have HSB := hide (show decide (lo ≤ row[j] ∧ row[j] ≤ hi) = true → ∀ t, (h : t < row.length) → t < j + 1 → decide (lo ≤ row[t] ∧ row[t] ≤ hi) = true from fun hc t ht h => by
                  by_cases e : t = j
                  · subst e; exact hc
                  · exact HB.out t ht (by omega))
                have HNB := hide (show decide (lo ≤ row[j] ∧ row[j] ≤ hi) = false → m.all (sizeRow C lo hi) = false from fun h => HNO.out (by
                  rw [sizeRow, all_no (p := fun x => decide (lo ≤ x ∧ x ≤ hi)) j hj' h, Bool.and_false]))
                obtain ⟨y, hyy⟩ : ∃ y, y = row[j] := ⟨_, rfl⟩
                rw [← hyy] at hy HSB HNB
                have HCALL := hide fun w' => l01In_any y lo hi w'
                obtain ⟨q, hq⟩ : ∃ q, q = decide (lo ≤ y ∧ y ≤ hi) := ⟨_, rfl⟩
                rw [← hq] at HCALL HSB HNB
                clear hyy hq
                cases q with
                | true =>
                  have HS2 := hide (HSB.out rfl)
                  clear HNB HSB
                  go_wp2_with (go_at_call 57; refine (HCALL.out _).mono ?_; rintro e w9 ⟨rfl, rfl⟩)
                  go_round
                  case rel => exact ⟨j + 1, by omega, by go_num, HS2.out⟩
                  case measure => simp [intOf]; omega
                | false =>
                  have HF := hide (HNB.out rfl)
                  clear HSB HNB
                  go_wp2_with (go_at_call 57; refine (HCALL.out _).mono ?_; rintro e w9 ⟨rfl, rfl⟩)
                  go_ret
                  exact ⟨ret_bool HF.out.symm, rfl⟩
              · have HST : Hid (∀ t, (h : t < m.length) → t < k + 1 → sizeRow C lo hi m[t] = true) := hide fun t h1 ht => by
                  by_cases e : t = k
                  · subst e
                    rw [← HROW.out, sizeRow, beq_iff_eq.2 HLN.out, Bool.true_and]
                    exact all_yes fun i hi => HB.out i hi (by have := HLN.out; omega)
                  · exact HA.out t h1 (by omega)
                go_wp2
                go_round
                case rel => exact ⟨k + 1, by omega, by go_num, HST.out⟩
                case measure => simp [intOf]; omega
          · have HF := hide (HNO.out (by rw [sizeRow, beq_eq_false_iff_ne.2 hln, Bool.false_and]))
            obtain ⟨n, hn⟩ : ∃ n, n = row.length := ⟨_, rfl⟩
            rw [← hn] at hx hm' hln
            have hne : ((n : Int) != (C : Int)) = true := by simp; omega
            clear hn hp' hrow
            go_wp2
            go_ret
            exact ⟨ret_bool HF.out.symm, rfl⟩
        · have HY := hide (all_yes (p := sizeRow C lo hi) fun t ht => HA.out t ht (by have := HL.out; omega))
          go_wp2
          go_ret
          exact ⟨ret_bool HY.out.symm, rfl⟩
  · have HF : Hid (sizeB m R C lo hi = false) := hide (by rw [sizeB, beq_eq_false_iff_ne.2 hlen, Bool.false_and])
    rw [HF.out]
    obtain ⟨n, hn⟩ : ∃ n, n = m.length := ⟨_, rfl⟩
    rw [← hn] at hlen hm ⊢
    have hne : ((n : Int) != (R : Int)) = true := by simp; omega
    clear hn hp hlen
    go_enter Try.func81, Try.ntmps81
    go_wp2
    go_ret
    exact ⟨rfl, rfl⟩
end Go.Proofs.Ytiajdmoppgpgnaa
/-
  grid.lessShifted of the program: a grid minus its shifted copy.
-/
namespace Go.Proofs.Ytiajdmoppgpgnaa
open Go.RowKit Go.Katz
set_option maxRecDepth 100000

/-- max(0, -dy) and max(0, dy). -/
def dnN (dy : Int) : Nat := (max 0 (-dy)).toNat
def upN (dy : Int) : Nat := (max 0 dy).toNat
/-- The grid minus its shifted copy, as the program reckons it. -/
def lsF (R C : Nat) (G : Nat → Nat → Int) (dx dy : Int) : Nat → Nat → Int := addF (addF (fun _ _ => 0) G 1 (dnN dy) 0 C R 0) G (-1) (upN dy) dx.toNat C R 0
theorem add_at (y x : Int) (p q : Value) (R C R2 C2 y0 x0 : Nat) (F G : Nat → Nat → Int) (fac : Int) (lo hi : Nat) (w0 w : World) (hy : y = (y0 : Int)) (hx : x = (x0 : Int)) (hp : OwnMat w lo hi p (mkM R C F)) (hq : InMat w0 q (mkM R2 C2 G)) (hB : Below w0.heap.size w0 w) (hlo : w0.heap.size ≤ lo) (hhi : hi ≤ w.heap.size)
    (hR : y0 + R2 ≤ R) (hC : x0 + C2 ≤ C) (hR2 : 1 ≤ R2) (hC2 : 1 ≤ C2) (hRm : R ≤ 100) (hCm : C ≤ 100) :
    Calls Try.prog 84 #[.agg #[.int .i64 R, .int .i64 C, p], .agg #[.int .i64 R2, .int .i64 C2, q], .int .i64 fac, .agg #[.int .i64 y, .int .i64 x]] w fun e w' => e = .returned (.tuple #[]) ∧ OwnMat w' lo hi p (mkM R C (addF F G fac y0 x0 C2 R2 0)) ∧ Within lo hi w w' := by
  subst hy; subst hx
  exact add_any p q R C R2 C2 y0 x0 F G fac lo hi w hp (outMat_in hq hB hlo (by omega) (by omega)) hhi hR hC hR2 hC2 hRm hCm
set_option maxHeartbeats 4000000 in
theorem lessShifted_any (q : Value) (R C : Nat) (G : Nat → Nat → Int) (dx dy : Int) (w : World) (hq : InMat w q (mkM R C G)) (hn : Near dx dy) (hR : 1 ≤ R ∧ R ≤ 20) (hC : 1 ≤ C ∧ C ≤ 20) :
    Calls Try.prog 78 #[gridV R C q, .agg #[.int .i64 dx, .int .i64 dy]] w (GridRes (R + (tallD (dx, dy)).toNat) (C + dx.toNat) (lsF R C G dx dy) w) := by
  have HQ := hide hq
  obtain ⟨qa, qn, qc, rfl⟩ : ∃ a n c, q = .slice a n c := by
    obtain ⟨a, c, h, -⟩ := hq
    exact ⟨a, _, c, h⟩
  have HNR := hide hn
  obtain ⟨n1, n2, n3, n4⟩ := hn
  obtain ⟨A, hA⟩ : ∃ A, A = dnN dy := ⟨_, rfl⟩
  obtain ⟨B, hB⟩ : ∃ B, B = upN dy := ⟨_, rfl⟩
  obtain ⟨X, hX⟩ : ∃ X, X = dx.toNat := ⟨_, rfl⟩
  obtain ⟨U, hU⟩ : ∃ U, U = (tallD (dx, dy)).toNat := ⟨_, rfl⟩
  have hXI : dx = (X : Int) := by omega
  have HTI : Hid (tallD (dx, dy) = (U : Int)) := hide (by rw [hU]; have := tallD_max (dx, dy); simp only at this; omega)
  have HA : Hid ((0 < -dy → -dy = (A : Int)) ∧ (¬ 0 < -dy → 0 = (A : Int))) := hide (by rw [hA, dnN]; omega)
  have HB : Hid ((0 < dy → dy = (B : Int)) ∧ (¬ 0 < dy → 0 = (B : Int))) := hide (by rw [hB, upN]; omega)
  have hAU : A ≤ U ∧ B ≤ U := by
    rw [hA, hB, hU, dnN, upN, ← tallD_max]; simp only; omega
  obtain ⟨hAU, hBU⟩ := hAU
  have HLS : Hid (lsF R C G dx dy = addF (addF (fun _ _ => 0) G 1 A 0 C R 0) G (-1) B X C R 0) := hide (by rw [lsF, hA, hB, hX])
  have hU3 : U ≤ 3 := by rw [hU]; have := tallD_max (dx, dy); simp only at this; omega
  have l1 : IntKind.i64.wrap (-dy) = -dy := IntWalk.i64_in _ (by omega)
  rw [HLS.out]
  rw [← hU, ← hX]
  obtain ⟨R', hR'⟩ : ∃ R', R' = R + U := ⟨_, rfl⟩
  obtain ⟨C', hC'⟩ : ∃ C', C' = C + X := ⟨_, rfl⟩
  have HRU : Hid ((R : Int) + (U : Int) = (R' : Int)) := hide (by omega)
  have HCX : Hid ((C : Int) + (X : Int) = (C' : Int)) := hide (by omega)
  rw [← hR', ← hC']
  have hR1 : R + U ≤ R' := by omega
  have hR2 : R' ≤ 23 := by omega
  have hC1 : C + X ≤ C' := by omega
  have hC2 : C' ≤ 23 := by omega
  clear hA hB hX hU HLS hq hR' hC'
  subst hXI
  have HAL : Hid (∀ (w : World) (o : Obj), Below w.heap.size w (w.alloc o)) := hide fun w o => (Below.refl _ _).alloc (Nat.le_refl _) o
  have HGN : Hid (∀ (w : World) (r c : Int) (a : Option Addr) (n k : Nat), GridAt (w.alloc (.cells #[.int .i64 r, .int .i64 c, .slice a n k] 75)) w.heap.size r c (.slice a n k)) := hide fun w _ _ _ _ _ => heap_alloc_new w _
  have HDN : Hid (∀ w : World, DirAt (w.alloc (.cells #[.int .i64 (X : Int), .int .i64 dy] 36)) w.heap.size X dy) := hide fun w => heap_alloc_new w _
  obtain ⟨wa, hwa⟩ : ∃ wa, wa = w.alloc (.cells #[.int .i64 R, .int .i64 C, .slice qa qn qc] 75) := ⟨_, rfl⟩
  obtain ⟨wb, hwb⟩ : ∃ wb, wb = wa.alloc (.cells #[.int .i64 (X : Int), .int .i64 dy] 36) := ⟨_, rfl⟩
  obtain ⟨wc, hwc⟩ : ∃ wc, wc = wb.alloc (.cells #[.int .i64 0, .int .i64 0, .slice none 0 0] 75) := ⟨_, rfl⟩
  have za : wa.heap.size = w.heap.size + 1 := by rw [hwa]; simp
  have zb : wb.heap.size = w.heap.size + 2 := by rw [hwb]; simp [za]
  have zc : wc.heap.size = w.heap.size + 3 := by rw [hwc]; simp [zb]
  have hba : Below w.heap.size w wa := by rw [hwa]; exact HAL.out _ _
  have hbb : Below wa.heap.size wa wb := by rw [hwb]; exact HAL.out _ _
  have hbc : Below wb.heap.size wb wc := by rw [hwc]; exact HAL.out _ _
  have hbbc := hbb.trans (hbc.mono hbb.size)
  have G1 := hide (gridAt_below (show GridAt wa w.heap.size R C (.slice qa qn qc) by rw [hwa]; exact HGN.out _ _ _ _ _ _) hbbc)
  have D1 := hide (dirAt_below (show DirAt wb (w.heap.size + 1) X dy by rw [← za, hwb]; exact HDN.out _) hbc)
  have Z1 := hide (show GridAt wc (w.heap.size + 2) 0 0 (.slice none 0 0) by rw [← zb, hwc]; exact HGN.out _ _ _ _ _ _)
  have BC := hide (hba.trans (hbbc.mono hba.size))
  have HWC : Hid (wc = ((w.alloc (.cells #[.int .i64 R, .int .i64 C, .slice qa qn qc] 75)).alloc (.cells #[.int .i64 (X : Int), .int .i64 dy] 36)).alloc (.cells #[.int .i64 0, .int .i64 0, .slice none 0 0] 75)) := hide (by rw [hwc, hwb, hwa])
  have HZC := hide zc
  clear hwa hwb hwc za zb zc hba hbb hbc hbbc
  unfold gridV
  have hcase : (0 < -dy ∧ ¬ 0 < dy) ∨ (¬ 0 < -dy ∧ ¬ 0 < dy) ∨ (¬ 0 < -dy ∧ 0 < dy) := by omega
  rcases hcase with ⟨p1, p2⟩ | ⟨p1, p2⟩ | ⟨p1, p2⟩
  all_goals
    go_enter Try.func78, Try.ntmps78
    go_wp2_with (first | ((with_reducible refine (grownBy_any R C X dy _ (by omega) (by omega) HNR.out).mono ?_); rw [HTI.out, ← HWC.out, HRU.out, HCX.out]; rintro e w1 ⟨rfl, hb⟩; have G2 := hide (gridAt_below G1.out hb); have D2 := hide (dirAt_below D1.out hb); have Z2 := hide (gridAt_below Z1.out hb); have B2 := hide (BC.out.trans (hb.mono BC.out.size)); have s2 := hb.size; clear hb) | ((with_reducible refine (zeroGrid_any R' C' _ (by omega) (by omega)).mono ?_); rintro e w3 ⟨x, rfl, ho, hb⟩; obtain ⟨xa, xn, xc, rfl⟩ := ownMat_slice ho; dsimp only [gridV]; have G3 := hide (gridAt_below G2.out hb); have D3 := hide (dirAt_below D2.out hb); have Z3 := hide (gridAt_below Z2.out hb); have B3 := hide (B2.out.trans (hb.mono B2.out.size)); have s3 := hb.size; have O3 := hide ho; obtain ⟨w4, hw4⟩ : ∃ w4, w4 = w3.alloc (.cells #[.int .i64 R', .int .i64 C', .slice xa xn xc] 75) := ⟨_, rfl⟩; have hal : Below w3.heap.size w3 w4 := (by rw [hw4]; exact HAL.out _ _); have Y4 := hide (show GridAt w4 w3.heap.size R' C' (.slice xa xn xc) by rw [hw4]; exact HGN.out _ _ _ _ _ _); have O4 := hide (ownMat_below O3.out hal); have G4 := hide (gridAt_below G3.out hal); have D4 := hide (dirAt_below D3.out hal); have Z4 := hide (gridAt_below Z3.out hal); have B4 := hide (B3.out.trans (hal.mono B3.out.size)); have s4 := hal.size; have HW4 := hide hw4; obtain ⟨g0, g1, g2⟩ := gridAt_cells G4.out; obtain ⟨y0, y1, y2⟩ := gridAt_cells Y4.out; obtain ⟨d0, d1⟩ := drC_at D4.out; rw [hw4] at g0 g1 g2 y0 y1 y2 d0 d1; clear hb ho hal hw4))
    rw [← HW4.out]
    refine (add_at _ 0 _ _ R' C' R C A 0 (fun _ _ => 0) G 1 w1.heap.size w3.heap.size w w4 (by first | exact HA.out.1 p1 | exact HA.out.2 p1) rfl O4.out HQ.out B4.out (by have := B2.out.size; omega) s4 (by omega) (by omega) (by omega) (by omega) (by omega) (by omega)).mono ?_
    rintro e w5 ⟨rfl, ho, hw⟩
    have O5 := hide ho
    have G5 := hide (gridAt_within G4.out hw (.inl (by have := B2.out.size; have := HZC.out; omega)))
    have Y5 := hide (gridAt_within Y4.out hw (.inr (Nat.le_refl _)))
    have Z5 := hide (gridAt_within Z4.out hw (.inl (by have := B2.out.size; have := HZC.out; omega)))
    have hdl := (Array.getElem?_eq_some_iff.1 D4.out).1
    have D5 := hide (show DirAt w5 (w.heap.size + 1) X dy by unfold DirAt; rw [hw.block _ hdl (.inl (by have := B2.out.size; have := HZC.out; omega))]; exact D4.out)
    have B5 := hide (B4.out.trans (below_within hw (by have := B2.out.size; omega) B4.out.size))
    have s5 := hw.size
    clear ho hw g0 g1 g2 y0 y1 y2 d0 d1 O4 G4 Y4 Z4 D4
    obtain ⟨g0, g1, g2⟩ := gridAt_cells G5.out
    obtain ⟨y0, y1, y2⟩ := gridAt_cells Y5.out
    obtain ⟨d0, d1⟩ := drC_at D5.out
    simp only at d0 d1
    go_wp2_with fail
    refine (add_at _ _ _ _ R' C' R C B X _ G (-1) w1.heap.size w3.heap.size w w5 (by first | exact HB.out.1 p2 | exact HB.out.2 p2) rfl O5.out HQ.out B5.out (by have := B2.out.size; omega) (by omega) (by omega) (by omega) (by omega) (by omega) (by omega) (by omega)).mono ?_
    rintro e w6 ⟨rfl, ho, hw⟩
    have Y6 := hide (gridAt_within Y5.out hw (.inr (Nat.le_refl _)))
    have Z6 := hide (gridAt_within Z5.out hw (.inl (by have := B2.out.size; have := HZC.out; omega)))
    have B6 := hide (B5.out.trans (below_within hw (by have := B2.out.size; omega) B5.out.size))
    have O6 := hide ho
    have s6 := hw.size
    clear ho hw g0 g1 g2 y0 y1 y2 d0 d1 O5 G5 Y5 Z5 D5
    go_wp2_with (first | (with_reducible refine wpList_loadGr Y6.out rfl _ rfl rfl ?_) | ((with_reducible refine wpList_storeGr Z6.out R' C' (.slice xa xn xc) rfl rfl _ _ rfl rfl rfl ?_); intro w7 hs hg7 hz; have HS7 := hide hs; have HG7 := hide hg7; have hz7 := hz; have B7 := hide (B6.out.trans (grown_below hg7 (fun q hq => by cases hq; omega) B6.out.size)); clear hs hg7 hz))
    obtain ⟨q0, q1, q2⟩ := gridAt_cells HS7.out
    have HOF := hide (ownMat_mono (lo' := w.heap.size) (hi' := w7.heap.size) (ownMat_within (lo' := w.heap.size + 2) (hi' := w.heap.size + 3) O6.out (within_grown HG7.out (fun q e => by cases e; omega)) (.inr (by have := B2.out.size; have := HZC.out; omega))) (by have := B2.out.size; omega) (by omega))
    refine bodyPost_ret (v := gridV R' C' (.slice xa xn xc)) ?_ rfl ⟨_, rfl, HOF.out, B7.out⟩
    simp [results, Try.results78, go_sem, q0, q1, q2, gridV]
end Go.Proofs.Ytiajdmoppgpgnaa
/-
  PURE: what the program's shifted subtraction and the ghost's have in common.
-/
namespace Go.Proofs.Ytiajdmoppgpgnaa
open Go.RowKit Go.Katz

theorem wrap_small {z : Int} (h : -100000 ≤ z ∧ z ≤ 100000) : IntKind.i64.wrap z = z := IntWalk.i64_in _ (by omega)
/-- A grid's elements are at most b. -/
def GOK (g : Grid) (b : Nat) : Prop := ∀ y x, (g.at y x).natAbs ≤ b
theorem gok_at {g : Grid} {b : Nat} (h : GOK g b) {y x : Nat} (hy : y < g.R) (hx : x < g.C) : (g.f y x).natAbs ≤ b := by
  have := h y x
  unfold Grid.at box at this
  rw [if_pos (by omega)] at this
  simpa using this
theorem gok_minus {g : Grid} {b : Nat} (h : GOK g b) {d : Int × Int} (hd : 0 ≤ d.1) : GOK (g.minus d) (2 * b) := fun y x => by
  rw [minus_at g d hd]
  exact mns_small h _ _
theorem at_in {g : Grid} {y x : Int} (h : 0 ≤ y ∧ y < g.R ∧ 0 ≤ x ∧ x < g.C) : g.at y x = g.f y.toNat x.toNat := if_pos h
theorem at_out {g : Grid} {y x : Int} (h : ¬ (0 ≤ y ∧ y < g.R ∧ 0 ≤ x ∧ x < g.C)) : g.at y x = 0 := if_neg h
theorem addF_val (F G : Nat → Nat → Int) (fac : Int) (y0 x0 C2 R2 y x : Nat) :
    addF F G fac y0 x0 C2 R2 0 y x = if y0 ≤ y ∧ y < y0 + R2 ∧ x0 ≤ x ∧ x < x0 + C2 then IntKind.i64.wrap (F y x + IntKind.i64.wrap (fac * G (y - y0) (x - x0))) else F y x := by
  unfold addF
  by_cases h : y0 ≤ y ∧ y < y0 + R2 ∧ x0 ≤ x ∧ x < x0 + C2
  · rw [if_pos (by omega), if_pos h]
  · rw [if_neg (by omega), if_neg h]
theorem lsF_minus {g : Grid} {b : Nat} (hg : GOK g b) (hb : b ≤ 1000) {dx dy : Int} (hd : 0 ≤ dx) (y x : Nat) : lsF g.R g.C g.f dx dy y x = (g.minus (dx, dy)).f y x := by
  have hA : ((dnN dy : Nat) : Int) = down dy := by unfold dnN down; split <;> omega
  have hB : ((upN dy : Nat) : Int) = down dy + dy := by unfold upN down; split <;> omega
  have hX : ((dx.toNat : Nat) : Int) = dx := by omega
  generalize dnN dy = A at hA
  have e1 : addF (fun _ _ => 0) g.f 1 A 0 g.C g.R 0 y x = g.at ((y : Int) - A) x := by
    rw [addF_val]
    by_cases h : A ≤ y ∧ y < A + g.R ∧ 0 ≤ x ∧ x < 0 + g.C
    · rw [if_pos h, at_in (by omega)]
      have := gok_at hg (y := y - A) (x := x - 0) (by omega) (by omega)
      rw [show ((y : Int) - A).toNat = y - A by omega, show ((x : Int)).toNat = x - 0 by omega]
      generalize g.f (y - A) (x - 0) = q at this
      rw [Int.one_mul, wrap_small (z := q) (by omega), Int.zero_add, wrap_small (z := q) (by omega)]
    · rw [if_neg h, at_out (by omega)]
  show addF (addF (fun _ _ => 0) g.f 1 (dnN dy) 0 g.C g.R 0) g.f (-1) (upN dy) dx.toNat g.C g.R 0 y x = g.at ((y : Int) - down dy) x - g.at ((y : Int) - down dy - dy) ((x : Int) - dx)
  have e2 : dnN dy = A := by unfold dnN; unfold down at hA; split at hA <;> omega
  rw [e2, addF_val, e1, hA]
  have hs := hg ((y : Int) - down dy) x
  generalize g.at ((y : Int) - down dy) x = P at hs
  generalize upN dy = B at hB
  generalize dx.toNat = X at hX
  by_cases h : B ≤ y ∧ y < B + g.R ∧ X ≤ x ∧ x < X + g.C
  · rw [if_pos h, at_in (y := (y : Int) - down dy - dy) (by omega)]
    have := gok_at hg (y := y - B) (x := x - X) (by omega) (by omega)
    rw [show ((y : Int) - down dy - dy).toNat = y - B by omega, show ((x : Int) - dx).toNat = x - X by omega]
    generalize g.f (y - B) (x - X) = q at this
    rw [wrap_small (z := -1 * q) (by omega), wrap_small (z := P + -1 * q) (by omega)]
    omega
  · rw [if_neg h, at_out (y := (y : Int) - down dy - dy) (by omega), Int.sub_zero]

/-- The ghost as it is built. -/
def ghG (l : List (Int × Int)) : Grid := Grid.ghost l ⟨1, 1, fun _ _ => 1⟩
theorem ghG_snoc (l : List (Int × Int)) (d : Int × Int) : ghG (l ++ [d]) = (ghG l).minus d := by simp [ghG, Grid.ghost]
theorem ghG_ok : ∀ (n : Nat) (l : List (Int × Int)), l.length = n → (∀ d ∈ l, 0 ≤ d.1) → GOK (ghG l) (2 ^ n)
  | 0, l, h, _ => by
    have : l = [] := List.eq_nil_of_length_eq_zero h
    subst this
    have e : ∀ (g : Grid), g = ⟨1, 1, fun _ _ => 1⟩ → GOK g (2 ^ 0) := fun g hg y x => by
      subst hg
      show (box 1 1 (fun _ _ => 1) y x).natAbs ≤ 1
      unfold box
      split
      · show (1 : Int).natAbs ≤ 1; decide
      · decide
    exact e _ rfl
  | n + 1, l, h, hd => by
    have hne : l ≠ [] := by intro e; rw [e] at h; simp at h
    obtain ⟨l', d, rfl⟩ : ∃ l' d, l = l' ++ [d] := ⟨l.dropLast, l.getLast hne, (List.dropLast_concat_getLast hne).symm⟩
    rw [ghG_snoc, Nat.pow_succ, Nat.mul_comm]
    exact gok_minus (ghG_ok n l' (by simpa using h) fun e he => hd e (List.mem_append_left _ he)) (hd d (by simp))
theorem ghG_size (l : List (Int × Int)) (hd : ∀ d ∈ l, 0 ≤ d.1) : ((ghG l).R : Int) = 1 + upI l ∧ ((ghG l).C : Int) = 1 + overI l := by
  have := ghost_size l ⟨1, 1, fun _ _ => 1⟩ hd
  exact ⟨this.1, this.2⟩
def bgB (l : List (Int × Int)) : Bool := dirsB l && sizeOk (1 + upI l) (1 + overI l)
def bgM (l : List (Int × Int)) : List (List Int) := if bgB l = true then mkM (ghG l).R (ghG l).C (ghG l).f else []
end Go.Proofs.Ytiajdmoppgpgnaa
