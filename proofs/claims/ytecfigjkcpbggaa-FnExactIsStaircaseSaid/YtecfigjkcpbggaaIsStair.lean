/-
  IsStaircase, of the model and of the program.
-/
import Derived.Test.YtecfigjkcpbggaaRowFn
import Derived.Test.YtecfigjkcpbggaaEq
import Derived.Test.YtecfigjkcpbggaaSortF
namespace Go.Proofs.Ytecfigjkcpbggaa
open Go.RowKit Go.Shelf

/-- The cells of the row stand in descending order. -/
def downB (r : List Int) : Bool := r == sortD r
def stairB (m : List (List Int)) : Bool := okB m && !m.any fun r => !downB r
theorem downB_iff (r : List Int) : downB r = true ↔ Desc r := by
  unfold downB
  rw [beq_iff_eq]
  constructor
  · intro h; rw [h]; exact sortD_desc r
  · intro h; exact sortD_of (List.Perm.refl r) h
theorem desc_of_next {r : List Int} (h : ∀ x, (h1 : x + 1 < r.length) → r[x + 1] ≤ r[x]) : Desc r := by
  have hd : ∀ d x, (h1 : x + d < r.length) → r[x + d] ≤ r[x] := by
    intro d
    induction d with
    | zero => intro x _; exact Int.le_refl _
    | succ d ih =>
      intro x h1
      have a := ih x (by omega)
      have b := h (x + d) (by omega)
      exact Int.le_trans b a
  refine List.pairwise_iff_getElem.2 fun i j hi hj hij => ?_
  obtain ⟨d, rfl⟩ : ∃ d, j = i + d := ⟨j - i, by omega⟩
  exact hd d i hj
theorem downB_no {r : List Int} (x : Nat) (h1 : x + 1 < r.length) (h : r[x] < r[x + 1]) : downB r = false := by
  cases e : downB r with
  | false => rfl
  | true =>
    have := List.pairwise_iff_getElem.1 ((downB_iff r).1 e) x (x + 1) (by omega) h1 (by omega)
    omega
theorem okB_rows {m : List (List Int)} (h : okB m = true) : (1 ≤ m.length ∧ m.length ≤ 5) ∧ (1 ≤ widthM m ∧ widthM m ≤ 5) ∧ ∀ r ∈ m, r.length = widthM m := by
  unfold okB at h
  simp only [Bool.and_eq_true, decide_eq_true_eq, List.all_eq_true] at h
  obtain ⟨⟨h1, h2⟩, h3⟩ := h
  refine ⟨h1, h2, fun r hr => ?_⟩
  have := h3 r hr
  unfold rowOk at this
  simp only [Bool.and_eq_true, beq_iff_eq] at this
  exact this.1

set_option maxHeartbeats 400000 in
theorem stairRow_any (r : List Int) (u : Value) (w : World) (hr : r.length ≤ 5) (hin : InRow w u r) :
    Calls Try.prog 41 #[u] w fun e w' => e = .returned (.bool (!downB r)) ∧ Below w.heap.size w w' := by
  have HI := hide hin
  clear hin
  go_enter Try.func41, Try.ntmps41
  go_wp2_with fail
  refine (implSortedDown_any u r _ HI.out (by omega)).mono ?_
  rintro e w1 ⟨v1, rfl, ho, hb⟩
  have HO := hide (inRow_own (r := sortD r) (by rw [sortD_len] at ho ⊢; exact ho)); have HB := hide hb; have HI1 := hide (inRow_below HI.out hb)
  clear ho hb
  go_wp2_with fail
  refine (equal_any u v1 r (sortD r) _ HI1.out HO.out).mono ?_
  rw [show (r == sortD r) = downB r from rfl]
  rintro e w2 ⟨rfl, hb⟩
  have HB2 := hide (HB.out.trans (hb.mono HB.out.size))
  clear hb
  go_wp2
  go_ret
  exact ⟨rfl, HB2.out⟩
theorem enters_stairRow : ∀ args w, (callFunc 41 args).run Try.prog w = .ok (.enter 41 args) w := enters_of Try.func41 (by kernel_rfl) rfl
set_option maxHeartbeats 400000 in
theorem implIsStair_any (v : Value) (m : List (List Int)) (w : World) (hin : InMat w v m) :
    Calls Try.prog 23 #[v] w fun e w' => e = .returned (.bool (stairB m)) ∧ Below w.heap.size w w' := by
  have HI := hide hin
  clear hin
  cases h : okB m with
  | false =>
    rw [stairB, h]
    have H := hide h
    clear h
    go_enter Try.func23, Try.ntmps23
    go_wp2_with ((with_reducible refine (implImageOk_any v m _ HI.out).mono ?_); rw [H.out]; rintro e w1 ⟨rfl, rfl⟩)
    go_ret
    exact ⟨rfl, Below.refl _ _⟩
  | true =>
    rw [stairB, h]
    have H := hide h
    obtain ⟨-, h2, h3⟩ := okB_rows h
    have HC := hide (fun (w : World) (hi : InMat w v m) => containsRows_any v m 41 #[] (fun r => r.length ≤ 5) (fun r => !downB r) w enters_stairRow hi (fun r hr => by rw [h3 r hr]; exact h2.2)
      (fun r u w' hr _ hi => by rw [show #[u] ++ (#[] : Array Value) = #[u] from rfl]; exact stairRow_any r u w' hr hi))
    obtain ⟨q, hq⟩ : ∃ q, q = m.any fun r => !downB r := ⟨_, rfl⟩
    rw [← hq] at HC ⊢
    clear h hq h2 h3
    go_enter Try.func23, Try.ntmps23
    go_wp2_with (first | ((with_reducible refine (implImageOk_any v m _ HI.out).mono ?_); rw [H.out]; rintro e w1 ⟨rfl, rfl⟩) | (go_at_call 35; refine (HC.out _ HI.out).mono ?_; rintro e w2 ⟨rfl, b2⟩; have B2 := hide b2; clear b2))
    go_ret
    exact ⟨rfl, B2.out⟩

set_option maxHeartbeats 1000000 in
theorem specIsStair_any (v : Value) (m : List (List Int)) (w : World) (hin : InMat w v m) :
    Calls Try.prog 21 #[v] w fun e w' => e = .returned (.bool (stairB m)) ∧ Below w.heap.size w w' := by
  have HI := hide hin
  cases h : okB m with
  | false =>
    rw [stairB, h]
    have H := hide h
    clear h hin
    go_enter Try.func21, Try.ntmps21
    go_wp2_with ((with_reducible refine (specImageOk_any v m _ HI.out).mono ?_); rw [H.out]; rintro e w1 ⟨rfl, rfl⟩)
    go_ret
    exact ⟨rfl, Below.refl _ _⟩
  | true =>
    have HSB : Hid (stairB m = !m.any fun r => !downB r) := hide (by rw [stairB, h]; rfl)
    have H := hide h
    obtain ⟨h1, h2, h3⟩ := okB_rows h
    have HLEN := hide h3
    have hw5 := h2.2
    have HW5 := hide hw5
    obtain ⟨a, c, rfl, hm, hpl⟩ := hin
    unfold maxLen at hm
    obtain ⟨b, o, rfl, hg, hc⟩ := hpl.resolve_left (by omega)
    have HC := hide hc; have HG := hide hg
    obtain ⟨n, hn⟩ : ∃ n, n = m.length := ⟨_, rfl⟩
    have HN := hide hn
    rw [← hn] at HI hm h1 ⊢
    obtain ⟨h11, h12⟩ := h1
    clear hpl hc hg h hn h2 h3 hw5
    go_enter Try.func21, Try.ntmps21
    go_wp2_with ((with_reducible refine (specImageOk_any _ m _ HI.out).mono ?_); rw [H.out]; rintro e w1 ⟨rfl, rfl⟩)
    go_loopw [11] (fun i w' => ∃ k : Nat, k ≤ n ∧ i = .int .i64 k ∧ (∀ t, (h : t < m.length) → t < k → downB m[t] = true) ∧ Below w.heap.size w w') (fun i _ => n - (intOf i).toNat)
    case atStart => exact ⟨0, Nat.zero_le _, rfl, fun t _ h => absurd h (Nat.not_lt_zero _), Below.refl _ _⟩
    case round =>
      obtain ⟨k, hk, rfl, hall, hb⟩ := hrel
      have HA := hide hall; have HB := hide hb
      clear hall hb
      by_cases hlt : k < n
      · have hk' : k < m.length := by rw [← HN.out]; exact hlt
        obtain ⟨u, hu, hru⟩ := HC.out k hk'
        have hx := below_cell HB.out HG.out hu
        obtain ⟨ua, uc, rfl, hul, hup⟩ := inRow_below hru HB.out
        unfold maxLen at hul
        have hl5 : m[k].length ≤ 5 := by rw [HLEN.out _ (List.getElem_mem hk')]; exact HW5.out
        have HP := hide fun h : m[k].length ≠ 0 => hup.resolve_left h
        have HNO : Hid (downB m[k] = false → stairB m = false) := hide fun h => by
          rw [HSB.out, show (m.any fun r => !downB r) = true from List.any_eq_true.2 ⟨_, List.getElem_mem hk', by rw [h]; rfl⟩]; rfl
        have HST : Hid (downB m[k] = true → ∀ t, (h : t < m.length) → t < k + 1 → downB m[t] = true) := hide fun h t h1 ht => by
          by_cases e : t = k
          · subst e; exact h
          · exact HA.out t h1 (by omega)
        obtain ⟨r, hr⟩ : ∃ r, r = m[k] := ⟨_, rfl⟩
        rw [← hr] at hx hul hl5 HP HNO HST
        obtain ⟨L, hL⟩ : ∃ L, L = r.length := ⟨_, rfl⟩
        have HL := hide hL
        rw [← hL] at hx hul hl5
        clear hr hu hru hup hL
        go_wp2
        go_loopw [5] (fun i w' => ∃ j : Nat, 1 ≤ j ∧ (j ≤ L ∨ j = 1) ∧ i = .int .i64 j ∧ (∀ t, (h : t + 1 < r.length) → t + 1 < j → r[t + 1] ≤ r[t]) ∧ Below wr.heap.size wr w') (fun i _ => L - (intOf i).toNat)
        case atStart => exact ⟨1, Nat.le_refl _, .inr rfl, rfl, fun t _ h => by omega, Below.refl _ _⟩
        case round =>
          obtain ⟨j, hj1, hj2, rfl, hdesc, hb2⟩ := hrel
          have HD := hide hdesc; have HB2 := hide hb2
          clear hdesc hb2
          by_cases hltj : j < L
          · obtain ⟨q, rfl⟩ : ∃ q, j = q + 1 := ⟨j - 1, by omega⟩
            obtain ⟨gr, orr, rfl, hgr, hcr⟩ := HP.out (by have := HL.out; omega)
            have hq1 : q + 1 < r.length := by have := HL.out; omega
            have hx1 := below_cell HB2.out hgr (hcr (q + 1) hq1)
            have hx0 := below_cell HB2.out hgr (hcr q (by omega))
            have HDN := hide (fun h => HNO.out (downB_no (r := r) q hq1 h))
            have HDS : Hid (r[q + 1] ≤ r[q] → ∀ t, (h : t + 1 < r.length) → t + 1 < q + 1 + 1 → r[t + 1] ≤ r[t]) := hide fun h t h1 ht => by
              by_cases e : t = q
              · subst e; exact h
              · exact HD.out t h1 (by omega)
            obtain ⟨x1, hx1'⟩ : ∃ x1, x1 = r[q + 1] := ⟨_, rfl⟩
            obtain ⟨x0, hx0'⟩ : ∃ x0, x0 = r[q] := ⟨_, rfl⟩
            rw [← hx1'] at hx1 HDN HDS
            rw [← hx0'] at hx0 HDN HDS
            clear hx1' hx0' hcr
            by_cases hgt : x0 < x1
            · have HF := hide (HDN.out hgt)
              clear HDN HDS
              go_wp2
              go_quiet (fail)
              go_wp2
              go_ret
              exact ⟨ret_bool HF.out.symm, below_draws (HB.out.trans (HB2.out.mono HB.out.size)) _⟩
            · have HF := hide (HDS.out (by omega))
              clear HDN HDS
              go_wp2
              go_quiet (fail)
              go_wp2
              go_roundw
              case rel => exact ⟨q + 1 + 1, by omega, by omega, by go_num, HF.out, below_draws HB2.out _⟩
              case measure => simp [intOf]; omega
          · have HF := hide (HST.out ((downB_iff r).2 (desc_of_next fun x hx => HD.out x hx (by have := HL.out; omega))))
            go_wp2
            go_roundw
            case rel => exact ⟨k + 1, by omega, by go_num, HF.out, HB.out.trans (HB2.out.mono HB.out.size)⟩
            case measure => simp [intOf]; omega
      · have HY : Hid (stairB m = true) := hide (by
          rw [HSB.out, Bool.not_eq_true', List.any_eq_false]
          intro r hr
          obtain ⟨t, ht, rfl⟩ := List.getElem_of_mem hr
          rw [HA.out t ht (by have := HN.out; omega)]; decide)
        go_wp2
        go_ret
        exact ⟨ret_bool HY.out.symm, HB.out⟩
end Go.Proofs.Ytecfigjkcpbggaa
