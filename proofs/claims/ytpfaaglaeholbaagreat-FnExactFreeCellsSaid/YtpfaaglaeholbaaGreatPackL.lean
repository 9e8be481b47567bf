/-
  Texts of this claim, one behind the other: RowsS, LeftS.
-/
import Derived.Test.YtpfaaglaeholbaaGreatPackK
import Derived.Test.YtpfaaglaeholbaaGreatPackJ
/-
  l05Rows of the model: all rows of so many cells with so many black ones.
-/
namespace Go.Proofs.YtpfaaglaeholbaaGreat
open Go.RowKit

/-- The rows whose first cell is k, .. is less than k. -/
def rowsPart (n : Nat) (s : Int) (k : Nat) : List (List Int) := if (k : Int) ≤ s then (rowsLn n (s - k)).map ((k : Int) :: ·) else []
def rowsParts (n : Nat) (s : Int) : Nat → List (List Int)
  | 0 => []
  | k + 1 => rowsParts n s k ++ rowsPart n s k
theorem rowsParts_two (n : Nat) (s : Int) : rowsParts n s 2 = rowsLn (n + 1) s := by
  simp only [rowsParts, rowsPart, rowsLn, List.nil_append]
  simp
theorem rowsL_len : ∀ (n : Nat) (s : Int), (rowsLn n s).length ≤ 2 ^ n
  | 0, s => by unfold rowsLn; split <;> simp
  | n + 1, s => by
    unfold rowsLn
    have h1 := rowsL_len n s
    have h2 := rowsL_len n (s - 1)
    rw [List.length_append, Nat.pow_succ]
    split <;> split <;> simp <;> omega
theorem rowsL_small (n : Nat) (s : Int) (hn : n ≤ 5) : (rowsLn n s).length ≤ 32 :=
  Nat.le_trans (rowsL_len n s) (Nat.le_trans (Nat.pow_le_pow_right (by decide) hn) (by decide))
theorem rowsParts_len (n : Nat) (s : Int) (hn : n ≤ 5) : ∀ k, (rowsParts n s k).length ≤ 32 * k
  | 0 => Nat.le_refl _
  | k + 1 => by
    rw [rowsParts, List.length_append]
    have h1 := rowsParts_len n s hn k
    have h2 : (rowsPart n s k).length ≤ 32 := by
      unfold rowsPart
      split
      · rw [List.length_map]; exact rowsL_small n _ hn
      · simp
    omega
theorem map_take_succ {α β : Type} (f : α → β) (l : List α) (j : Nat) (h : j < l.length) (P : List β) : P ++ (l.take (j + 1)).map f = (P ++ (l.take j).map f) ++ [f l[j]] := by
  rw [List.take_succ_eq_append_getElem h, List.map_append, List.append_assoc]; rfl

set_option maxHeartbeats 400000 in
theorem specRows_zero (s : Int) (w : World) : Calls Tryz.prog 97 #[.int .i64 0, .int .i64 s] w (MatRes (rowsLn 0 s) w) := by
  unfold rowsLn
  by_cases h : s = 0
  · subst h
    rw [if_pos rfl]
    go_enter Tryz.func97, Tryz.ntmps97
    go_wp2
    go_ret
    have h1 := (Below.refl w.heap.size w).alloc (Nat.le_refl _) (.cells #[] 3)
    have h2 : ((w.alloc (.cells #[] 3)).alloc (.cells #[.slice (some ⟨w.heap.size, 0, none⟩) 0 0] 25)).ownsRow w.heap.size 25 1 (.slice (some ⟨w.heap.size + 1, 0, none⟩) 1 1) 1 [.slice (some ⟨w.heap.size, 0, none⟩) 0 0] := by
      have := World.ownsRow_lit (e := 25) (size := 1) (base := w.heap.size) (w.alloc (.cells #[] 3)) #[.slice (some ⟨w.heap.size, 0, none⟩) 0 0] 1 (by simp) (by decide) rfl
      rwa [World.size_alloc] at this
    refine ⟨_, rfl, ⟨[.slice (some ⟨w.heap.size, 0, none⟩) 0 0], h2, ?_, fun i hi => ?_, fun i j hij hj => ?_⟩, h1.alloc (by simp) _⟩
    · intro k e
      simp [Value.ownBlock] at e
      simp; omega
    · obtain rfl : i = 0 := by simp at hi; exact hi
      refine ⟨own_below (World.ownsRow_made (base := w.heap.size) w #[] 0 (Nat.le_refl _) (Nat.zero_le _) rfl) ((Below.refl _ _).alloc (Nat.le_refl _) _), fun k e => ?_⟩
      simp [Value.ownBlock] at e
      simp; omega
    · simp at hj; omega
  · rw [if_neg h]
    have hs : (s == 0) = false := beq_eq_false_iff_ne.2 h
    go_enter Tryz.func97, Tryz.ntmps97
    go_wp2
    go_ret
    exact matRes_nil (Below.refl _ _)
set_option maxRecDepth 100000 in
set_option maxHeartbeats 4000000 in
theorem specRows_succ (n : Nat) (s : Int) (w : World) (hn : n + 1 ≤ 5) (hs : -1000 ≤ s ∧ s ≤ 1000)
    (ih : ∀ (s : Int) (w : World), (-1000 ≤ s ∧ s ≤ 1000) → Calls Tryz.prog 97 #[.int .i64 n, .int .i64 s] w (MatRes (rowsLn n s) w)) :
    Calls Tryz.prog 97 #[.int .i64 (n + 1 : Nat), .int .i64 s] w (MatRes (rowsLn (n + 1) s) w) := by
  rw [← rowsParts_two]
  have HIH : Hid (∀ (k : Nat) (w : World), (k : Int) ≤ s → k < 2 → Calls Tryz.prog 97 #[.int .i64 (((n + 1 : Nat) : Int) - 1), .int .i64 (s - k)] w (MatRes (rowsLn n (s - k)) w)) := hide fun k w h1 h2 => by
    rw [show (((n + 1 : Nat) : Int) - 1) = (n : Int) by omega]
    exact ih (s - k) w (by omega)
  have HPL := hide fun k => rowsParts_len n s (by omega) k
  have HSM := hide fun s => rowsL_small n s (by omega)
  have HP : Hid (∀ k : Nat, (k : Int) ≤ s → rowsParts n s k ++ (rowsLn n (s - k)).map ((k : Int) :: ·) = rowsParts n s (k + 1)) := hide fun k h => by rw [rowsParts, rowsPart, if_pos h]
  have HQ : Hid (∀ k : Nat, ¬ (k : Int) ≤ s → rowsParts n s (k + 1) = rowsParts n s k) := hide fun k h => by rw [rowsParts, rowsPart, if_neg h, List.append_nil]
  have HRL : Hid (∀ (s : Int) (r : List Int), r ∈ rowsLn n s → r.length = n) := hide fun s r h => ((mem_rowsL _ _ _).1 h).1
  obtain ⟨N, hN⟩ : ∃ N, N = n + 1 := ⟨_, rfl⟩
  have hN1 : 1 ≤ N := by omega
  have hN5 : N ≤ 5 := by omega
  have hN0 : ((N : Int) == 0) = false := beq_eq_false_iff_ne.2 (by omega)
  rw [← hN] at HIH ⊢
  obtain ⟨hs1, hs2⟩ := hs
  have HNN : Hid (n ≤ 5) := hide (by omega)
  clear ih hN hn
  go_enter Tryz.func97, Tryz.ntmps97
  go_wp2
  go_loopw [5, 6] (fun o x w' => ∃ (k : Nat) (v : Value), k ≤ 2 ∧ x = .int .i64 k ∧ v = o ∧ OwnMat w' w.heap.size w'.heap.size v (rowsParts n s k) ∧ Below w.heap.size w w') (fun _ x _ => 2 - (intOf x).toNat)
  case atStart => exact ⟨0, _, Nat.zero_le _, rfl, rfl, ⟨[], World.ownsRow_made (base := w.heap.size) w #[] 0 (Nat.le_refl _) (Nat.zero_le _) rfl, (fun k e => by simp [Value.ownBlock] at e; subst e; simp), (fun i h => absurd h (Nat.not_lt_zero _)), fun i j _ h => absurd h (Nat.not_lt_zero _)⟩, (Below.refl _ _).alloc (Nat.le_refl _) _⟩
  case round =>
    obtain ⟨k, v, hk, rfl, rfl, hown, hb⟩ := hrel
    have HO := hide hown; have HB := hide hb
    clear hown hb
    by_cases hlt : k < 2
    · have hltI : (k : Int) < 2 := by omega
      by_cases hge : (k : Int) ≤ s
      · have hsz := HB.out.size
        have HREC := hide (HIH.out k wr hge hlt)
        have HPK := hide (HP.out k hge)
        have HLL := hide (HSM.out (s - k))
        have HRLK := hide (HRL.out (s - k))
        have HPL2 := hide (HPL.out k)
        obtain ⟨L, hL⟩ : ∃ L, L = rowsLn n (s - k) := ⟨_, rfl⟩
        rw [← hL] at HREC HPK HLL HRLK
        obtain ⟨B1, hB1⟩ : ∃ B1, B1 = wr.heap.size := ⟨_, rfl⟩
        have HB1 := hide hB1
        clear hL
        go_wp2_with fail
        refine HREC.out.mono ?_
        rintro e w4 ⟨u, rfl, hu, hb4⟩
        rw [← hB1] at hu hsz
        obtain ⟨xu, cu, rfl⟩ : ∃ a c, u = .slice a L.length c := by obtain ⟨a, c, rfl, -⟩ := inMat_own hu; exact ⟨a, c, rfl⟩
        have HU := hide hu
        have HO4 := hide (ownMat_mono (ownMat_below HO.out hb4) (Nat.le_refl _) hb4.size)
        have HB4 := hide (HB.out.trans (hb4.mono (by omega)))
        have HV4 : Hid (∀ q, v.ownBlock = some q → q < B1 ∨ w4.heap.size ≤ q) := hide fun q hq => by
          obtain ⟨vs, -, hh, -⟩ := HO.out
          have := hh q hq; omega
        have hs4 := hb4.size
        rw [← hB1] at hs4
        obtain ⟨B2, hB2⟩ : ∃ B2, B2 = w4.heap.size := ⟨_, rfl⟩
        rw [← hB2] at HU HV4 hs4
        have HOL : Hid (OwnMat w4 w.heap.size w4.heap.size v (rowsParts n s k ++ (L.take 0).map ((k : Int) :: ·))) := hide (by simpa using HO4.out)
        obtain ⟨LL, hLL⟩ : ∃ LL, LL = L.length := ⟨_, rfl⟩
        have HLE := hide hLL
        rw [← hLL] at HU HLL ⊢
        have HS4 := hide hs4
        have HB2 := hide (Nat.le_of_eq hB2)
        clear hu hb4 hB1 hB2 hLL HO HO4 HREC HB hs4
        go_wp2
        go_loopw [5, 30] (fun o i w' => ∃ (j : Nat) (v : Value), j ≤ LL ∧ i = .int .i64 j ∧ v = o ∧ OwnMat w' w.heap.size w'.heap.size v (rowsParts n s k ++ (L.take j).map ((k : Int) :: ·)) ∧ OwnMat w' B1 B2 (.slice xu LL cu) L ∧ (∀ q, v.ownBlock = some q → q < B1 ∨ B2 ≤ q) ∧ B2 ≤ w'.heap.size ∧ Below w.heap.size w w') (fun _ i _ => LL - (intOf i).toNat)
        case atStart => exact ⟨0, _, Nat.zero_le _, rfl, rfl, HOL.out, HU.out, HV4.out, HB2.out, HB4.out⟩
        case round =>
          clear HOL HU HV4 HB4 HB2
          obtain ⟨j, v, hj, rfl, rfl, hown, hol, hvq, hb2, hb⟩ := hrel
          have HO := hide hown; have HOL := hide hol; have HVQ := hide hvq; have HB2 := hide hb2; have HB := hide hb
          clear hown hvq hb2 hb
          by_cases hltj : j < LL
          · have hjl : j < L.length := by rw [← HLE.out]; exact hltj
            have hltI2 : (j : Int) < LL := by omega
            have hLL32 : LL ≤ 32 := HLL.out
            have HSTEP := hide (map_take_succ (fun x => (k : Int) :: x) L j hjl (rowsParts n s k))
            have HRN := hide (HRLK.out L[j] (List.getElem_mem hjl))
            obtain ⟨M, hM⟩ : ∃ M, M = rowsParts n s k ++ (L.take j).map ((k : Int) :: ·) := ⟨_, rfl⟩
            have HML : Hid (M.length ≤ 1000) := hide (by
              rw [hM, List.length_append, List.length_map, List.length_take]
              have := HPL2.out; have := HLL.out; omega)
            rw [← hM] at HO HSTEP
            obtain ⟨vs, hv, -, hr, -⟩ := hol
            rw [← HLE.out] at hv
            obtain ⟨gu, cu', he, -, -, -, -, -, -⟩ := own_some hv (by omega)
            cases he
            have hx := cell_held hv hltj
            have hrow := hr j hjl
            obtain ⟨row, hrw⟩ : ∃ row, row = L[j] := ⟨_, rfl⟩
            obtain ⟨uj, huj⟩ : ∃ uj, uj = vs.getD j undef := ⟨_, rfl⟩
            rw [← hrw] at HSTEP HRN hrow
            rw [← huj] at hx hrow
            obtain ⟨xr, cr, he⟩ := own_slice hrow.1
            rw [HRN.out] at he
            have HROW := hide hrow.1
            have hML := HML.out; have hNN := HNN.out
            have hsz := HB.out.size
            have hbb := HB2.out
            clear hv hr hrw huj hM hrow
            subst he
            have HX : Hid ((wr.alloc (.cells #[.int .i64 k] 3)).ownsRow wr.heap.size 3 1 (.slice (some ⟨wr.heap.size, 0, none⟩) 1 1) 1 [.int .i64 k]) := hide (World.ownsRow_lit (e := 3) (size := 1) (base := wr.heap.size) wr #[.int .i64 k] 1 (Nat.le_refl _) (by decide) rfl)
            have HAL := hide ((Below.refl wr.heap.size wr).alloc (Nat.le_refl _) (.cells #[.int .i64 k] 3))
            have HSA : Hid ((wr.alloc (.cells #[.int .i64 k] 3)).heap.size = wr.heap.size + 1) := hide (by simp)
            have HROWA := hide (own_below HROW.out HAL.out)
            have HOA := hide (ownMat_below HO.out HAL.out); have HLA := hide (ownMat_below HOL.out HAL.out)
            go_wp2_with (first | (refine wpList_appendOwn 38 rfl HX.out row HROWA.out (.int .i64 0) rfl _ _ rfl Tryz.underlying25 Tryz.infoInt rfl (by decide) rfl rfl (by rw [HRN.out]; omega) (by rw [HSA.out]; omega) ?_; intro u2 w2 hu2 hb2 hg2; rw [Nat.add_comm 1 row.length] at hu2; obtain ⟨ua, uc, rfl⟩ := own_slice hu2; have HU2 := hide hu2; have O2 := hide (ownMat_grown HOA.out hg2 fun q e => by simp [Value.ownBlock] at e; omega); have L2 := hide (ownMat_grown HLA.out hg2 fun q e => by simp [Value.ownBlock] at e; omega); have B2' := hide ((HB.out.trans (HAL.out.mono hsz)).trans (hb2.mono hsz)); have hs2 := hb2.size; rw [HSA.out] at hs2; clear hu2 hb2 hg2; obtain ⟨vs, hv, hvh, hvr, hva⟩ := O2.out; have HV := hide hv; have HVR := hide hvr; have HVA := hide hva; clear hv hvh hvr hva) | (at_builtin; refine wpList_pushl HV.out (.slice ua (row.length + 1) uc) (.slice none 0 0) rfl _ _ rfl Tryz.underlying23 Tryz.infoInts rfl (by decide) rfl rfl rfl (by omega) (by omega) ?_; intro g1 cap1 w6 hown1 hb1 hg1 hat1))
            go_roundw
            case rel =>
              have hs6 := hb1.size
              have hints : ([Value.int .i64 k] ++ ints row) = ints ((k : Int) :: row) := rfl
              have hp := ownMat_push (w := w2) (r := (k : Int) :: row) (hi := wr.heap.size) (hi' := w6.heap.size) HVR.out HVA.out HV.out (by rw [List.length_cons, ← hints]; exact HU2.out) hsz (by omega) (by omega) hg1 hown1 (fun q e => (hown1.lt q e).2)
              rw [← HSTEP.out] at hp
              refine ⟨j + 1, _, by omega, by go_num, rfl, hp, ownMat_grown L2.out hg1 HVQ.out, fun q e => ?_, by omega, B2'.out.trans (hb1.mono (by omega))⟩
              rcases hat1 with h1 | h1
              · simp [Value.ownBlock] at e
                subst e
                exact HVQ.out _ h1
              · simp [Value.ownBlock] at e; omega
            case measure => simp [intOf]; omega
          · obtain rfl : j = LL := by omega
            have HFIN : Hid (rowsParts n s k ++ (L.take j).map ((k : Int) :: ·) = rowsParts n s (k + 1)) := hide (by rw [HLE.out, List.take_length]; exact HPK.out)
            rw [HFIN.out] at HO
            clear hol
            go_wp2
            go_roundw
            case rel => exact ⟨k + 1, _, by omega, by go_num, rfl, HO.out, HB.out⟩
            case measure => simp [intOf]; omega
      · have HQK := hide (HQ.out k (by omega))
        go_wp2
        go_roundw
        case rel => exact ⟨k + 1, _, by omega, by go_num, rfl, by rw [HQK.out]; exact HO.out, HB.out⟩
        case measure => simp [intOf]; omega
    · obtain rfl : k = 2 := by omega
      go_wp2
      go_ret
      exact ⟨_, rfl, HO.out, HB.out⟩
theorem specRows_any : ∀ (n : Nat) (s : Int) (w : World), n ≤ 5 → (-1000 ≤ s ∧ s ≤ 1000) → Calls Tryz.prog 97 #[.int .i64 n, .int .i64 s] w (MatRes (rowsLn n s) w)
  | 0, s, w, _, _ => specRows_zero s w
  | n + 1, s, w, hn, hs => specRows_succ n s w hn hs fun s w h => specRows_any n s w (by omega) h
end Go.Proofs.YtpfaaglaeholbaaGreat
/-
  l05Left and l02Copy of the model.
-/
namespace Go.Proofs.YtpfaaglaeholbaaGreat
open Go.RowKit

/-- No column is asked for more than it has. -/
def leftOk (c row : List Int) : Bool := (List.range c.length).all fun x => decide (row.getD x 0 ≤ c.getD x 0)
theorem leftOk_yes {c row : List Int} (h : ∀ x, x < c.length → row.getD x 0 ≤ c.getD x 0) : leftOk c row = true := by
  unfold leftOk
  rw [List.all_eq_true]
  intro x hx
  simpa using h x (by simpa using hx)
theorem leftOk_no {c row : List Int} {x : Nat} (hx : x < c.length) (h : c.getD x 0 < row.getD x 0) : leftOk c row = false := by
  unfold leftOk
  rw [List.all_eq_false]
  exact ⟨x, by simpa using hx, by rw [decide_eq_true_eq]; omega⟩
theorem leftOk_iff {c row : List Int} : leftOk c row = true ↔ ∀ x, x < c.length → row.getD x 0 ≤ c.getD x 0 := by
  unfold leftOk
  rw [List.all_eq_true]
  constructor
  · intro h x hx; simpa using h x (by simpa using hx)
  · intro h x hx; simpa using h x (by simpa using hx)
/-- What l05Left answers. -/
def LeftRes (c row : List Int) (w : World) (e : Ending) (w' : World) : Prop :=
  ∃ v, e = .returned (.tuple #[v, .bool (leftOk c row)]) ∧ w'.ownsRow w.heap.size 3 1 v (if leftOk c row then subL c row else []).length (ints (if leftOk c row then subL c row else [])) ∧ Below w.heap.size w w'
theorem leftRes_yes {c row : List Int} {w w' : World} {v : Value} (h : leftOk c row = true) (ho : w'.ownsRow w.heap.size 3 1 v c.length (ints (subL c row))) (hb : Below w.heap.size w w') : LeftRes c row w (.returned (.tuple #[v, .bool true])) w' := by
  refine ⟨v, by rw [h], ?_, hb⟩
  rw [if_pos h, subL_len]; exact ho
theorem leftRes_no {c row : List Int} {w w' : World} (h : leftOk c row = false) (hb : Below w.heap.size w w') : LeftRes c row w (.returned (.tuple #[.slice none 0 0, .bool false])) w' := by
  refine ⟨_, by rw [h], ?_, hb⟩
  rw [h]; exact World.ownsRow_nil _ _ _ _
theorem subL_take {c row : List Int} {k : Nat} (h : k < c.length) : (subL c row).take (k + 1) = (subL c row).take k ++ [c.getD k 0 - row.getD k 0] := by
  rw [List.take_succ_eq_append_getElem (by rw [subL_len]; exact h)]
  congr 2
  exact tabL_at _

set_option maxRecDepth 100000 in
set_option maxHeartbeats 1000000 in
theorem l05Left_any (va vb : Value) (c row : List Int) (w : World) (ha : InRow w va c) (hb : InRow w vb row) (hl : row.length = c.length) (hM : Mid1000 c) (hR : Mid1000 row) :
    Calls Tryz.prog 98 #[va, vb] w (LeftRes c row w) := by
  obtain ⟨xa, ca, rfl, hma, hpa⟩ := ha
  obtain ⟨xb, cb, rfl, hmb, hpb⟩ := hb
  unfold maxLen at hma hmb
  have HPA := hide fun h : 0 < c.length => hpa.resolve_left (by omega)
  have HPB := hide fun h : 0 < row.length => hpb.resolve_left (by omega)
  have HM := hide hM; have HR := hide hR; have HLR := hide hl
  have HGA : Hid (∀ x, (h : x < c.length) → c.getD x 0 = c[x]) := hide fun x h => by rw [List.getD_eq_getElem?_getD, List.getElem?_eq_getElem h]; rfl
  have HGB : Hid (∀ x, (h : x < row.length) → row.getD x 0 = row[x]) := hide fun x h => by rw [List.getD_eq_getElem?_getD, List.getElem?_eq_getElem h]; rfl
  have HTK := hide fun (k : Nat) (h : k < c.length) => subL_take (c := c) (row := row) h
  have HAL : Hid ((subL c row).take c.length = subL c row) := hide (by rw [List.take_of_length_le (by rw [subL_len]; exact Nat.le_refl _)])
  rw [hl] at hmb ⊢
  obtain ⟨C, hCC⟩ : ∃ C, C = c.length := ⟨_, rfl⟩
  have HCC := hide hCC
  rw [← hCC] at hma hmb HTK HAL ⊢
  have hC5 : C ≤ 5 := by rw [hCC]; exact hM.1
  clear hpa hpb hM hR hl hCC
  go_enter Tryz.func98, Tryz.ntmps98
  go_wp2
  go_loopw [6, 12] (fun o i w' => ∃ (k : Nat) (v : Value), k ≤ C ∧ i = .int .i64 k ∧ v = o ∧ w'.ownsRow w.heap.size 3 1 v k (ints ((subL c row).take k)) ∧ (∀ x, x < k → row.getD x 0 ≤ c.getD x 0) ∧ Below w.heap.size w w') (fun _ i _ => C - (intOf i).toNat)
  case atStart => exact ⟨0, _, Nat.zero_le _, rfl, rfl, World.ownsRow_made (base := w.heap.size) w #[] 0 (Nat.le_refl _) (Nat.zero_le _) rfl, fun x h => absurd h (Nat.not_lt_zero _), (Below.refl _ _).alloc (Nat.le_refl _) _⟩
  case round =>
    obtain ⟨k, v, hk, rfl, rfl, hown, hall, hb⟩ := hrel
    have HO := hide hown; have HA := hide hall; have HB := hide hb
    clear hown hall hb
    by_cases hlt : k < C
    · have hkI : (k : Int) < C := by omega
      have hkc : k < c.length := by rw [← HCC.out]; exact hlt
      have hkr : k < row.length := by rw [HLR.out, ← HCC.out]; exact hlt
      obtain ⟨ga, oa, rfl, hga, hca⟩ := HPA.out (by omega)
      obtain ⟨gb, ob, rfl, hgb, hcb⟩ := HPB.out (by omega)
      have hx1 := below_cell HB.out hga (hca k hkc)
      have hx2 := below_cell HB.out hgb (hcb k hkr)
      rw [← HGA.out k hkc] at hx1
      rw [← HGB.out k hkr] at hx2
      have HTKK := hide (HTK.out k hlt)
      have hm1 := HM.out.2 k hkc
      have hm2 := HR.out.2 k hkr
      have HNO := hide fun h => leftOk_no (row := row) hkc h
      have HYE : Hid (row.getD k 0 ≤ c.getD k 0 → ∀ x, x < k + 1 → row.getD x 0 ≤ c.getD x 0) := hide fun h x hx => by
        by_cases e : x = k
        · subst e; exact h
        · exact HA.out x (by omega)
      have hsz := HB.out.size
      obtain ⟨x1, hx1'⟩ : ∃ x1, x1 = c.getD k 0 := ⟨_, rfl⟩
      obtain ⟨x2, hx2'⟩ : ∃ x2, x2 = row.getD k 0 := ⟨_, rfl⟩
      rw [← hx1'] at hx1 hm1 HTKK HNO HYE
      rw [← hx2'] at hx2 hm2 HTKK HNO HYE
      obtain ⟨m11, m12⟩ := hm1
      obtain ⟨m21, m22⟩ := hm2
      clear hca hcb hkc hkr hx1' hx2'
      by_cases hle : x1 < x2
      · have HF := hide (HNO.out hle)
        go_wp2
        go_ret2
        exact leftRes_no HF.out HB.out
      · have HY := hide (HYE.out (by omega))
        go_wp2_with (at_builtin; refine wpList_push HO.out (.int .i64 (x1 - x2)) (.int .i64 0) rfl _ _ rfl Tryz.underlying25 Tryz.infoInt rfl (by decide) rfl rfl rfl (by omega) hsz ?_; intro v' w6 hown1 hb1 hg1)
        go_roundw
        case rel => exact ⟨k + 1, _, by omega, by go_num, rfl, by rw [HTKK.out]; simpa [ints] using hown1, HY.out, HB.out.trans hb1⟩
        case measure => simp [intOf]; omega
    · obtain rfl : k = C := by omega
      have HF := hide (leftOk_yes (c := c) (row := row) (by rw [← HCC.out]; exact HA.out))
      rw [HAL.out] at HO
      go_wp2
      go_ret2
      exact leftRes_yes HF.out (by rw [← HCC.out]; exact HO.out) HB.out

/-- A copy of rows that some call has made. -/
theorem take_snoc {α : Type} (m : List α) (k : Nat) (h : k < m.length) : m.take (k + 1) = m.take k ++ [m[k]] := List.take_succ_eq_append_getElem h
set_option maxRecDepth 100000 in
set_option maxHeartbeats 1000000 in
theorem copyRows_any (v : Value) (m : List (List Int)) (lo : Nat) (w : World) (hin : MatT w lo v m) (hm5 : m.length ≤ 10) (hrows : ∀ r ∈ m, r.length ≤ 10) :
    Calls Tryz.prog 93 #[v] w (MatRes m w) := by
  have HM := hide hin
  obtain ⟨a, n, c, hv'⟩ : ∃ a n c, v = .slice a n c := by obtain ⟨a, c, rfl, -⟩ := inMat_matT hin; exact ⟨a, _, c, rfl⟩
  have hnl : n = m.length := by
    obtain ⟨a, c, he, -⟩ := inMat_matT hin
    rw [hv'] at he; cases he; rfl
  subst hv'
  have HNL := hide hnl
  have HROWS := hide hrows
  have hn10 : n ≤ 10 := by omega
  have HTK := hide fun (k : Nat) (h : k < m.length) => take_snoc m k h
  clear hin hnl hm5 hrows
  go_enter Tryz.func93, Tryz.ntmps93
  go_wp2
  go_loopw [3, 9] (fun u i w' => ∃ (k : Nat) (v : Value), k ≤ n ∧ i = .int .i64 k ∧ v = u ∧ OwnMat w' w.heap.size w'.heap.size v (m.take k) ∧ Below w.heap.size w w') (fun _ i _ => n - (intOf i).toNat)
  case atStart => exact ⟨0, _, by omega, rfl, rfl, ⟨[], World.ownsRow_made (base := w.heap.size) w #[] 0 (Nat.le_refl _) (Nat.zero_le _) rfl, (fun k e => by simp [Value.ownBlock] at e; subst e; simp), (fun i h => absurd h (Nat.not_lt_zero _)), fun i j _ h => absurd h (Nat.not_lt_zero _)⟩, (Below.refl _ _).alloc (Nat.le_refl _) _⟩
  case round =>
    obtain ⟨k, v, hk, rfl, rfl, hown, hb⟩ := hrel
    have HO := hide hown; have HB := hide hb
    clear hown hb
    by_cases hlt : k < n
    · have hkI : (k : Int) < n := by omega
      have hkm : k < m.length := by rw [← HNL.out]; exact hlt
      have hsz := HB.out.size
      obtain ⟨vs, hv, hr⟩ := matT_below HM.out HB.out
      rw [← HNL.out] at hv
      obtain ⟨g, cap, he, -, -, -, -, -, -⟩ := own_some hv (by omega)
      cases he
      have hx := cell_held hv hlt
      have hrow := hr k hkm
      have HRL := hide (HROWS.out _ (List.getElem_mem hkm))
      have HTKK := hide (HTK.out k hkm)
      obtain ⟨row, hrw⟩ : ∃ row, row = m[k] := ⟨_, rfl⟩
      obtain ⟨uj, huj⟩ : ∃ uj, uj = vs.getD k undef := ⟨_, rfl⟩
      rw [← hrw] at HTKK HRL hrow
      rw [← huj] at hx hrow
      obtain ⟨xr, cr, he⟩ := own_slice hrow
      have HROW := hide hrow
      obtain ⟨M, hM⟩ : ∃ M, M = m.take k := ⟨_, rfl⟩
      have hML : M.length ≤ 10 := by rw [hM, List.length_take]; omega
      rw [← hM] at HO HTKK
      have hRL := HRL.out
      obtain ⟨L, hL⟩ : ∃ L, L = row.length := ⟨_, rfl⟩
      have HLL := hide hL
      rw [← hL] at he hRL
      clear hv hr hrw huj hM hrow hL
      subst he
      have HX : Hid ((wr.alloc (.cells #[] 3)).ownsRow wr.heap.size 3 1 (.slice (some ⟨wr.heap.size, 0, none⟩) 0 0) 0 []) := hide (World.ownsRow_made (base := wr.heap.size) wr #[] 0 (Nat.le_refl _) (Nat.zero_le _) rfl)
      have HAL := hide ((Below.refl wr.heap.size wr).alloc (Nat.le_refl _) (.cells #[] 3))
      have HSA : Hid ((wr.alloc (.cells #[] 3)).heap.size = wr.heap.size + 1) := hide (by simp)
      have HROWA := hide (own_below HROW.out HAL.out)
      have HOA := hide (ownMat_below HO.out HAL.out)
      go_wp2_with (first | (refine wpList_appendOwn 16 rfl HX.out row HROWA.out (.int .i64 0) rfl _ _ rfl Tryz.underlying25 Tryz.infoInt rfl (by decide) rfl rfl (by rw [← HLL.out]; omega) (by rw [HSA.out]; omega) ?_; intro u2 w2 hu2 hb2 hg2; rw [Nat.zero_add, List.nil_append, ← HLL.out] at hu2; obtain ⟨ua, uc, rfl⟩ := own_slice hu2; have HU2 := hide hu2; have O2 := hide (ownMat_grown HOA.out hg2 fun q e => by simp [Value.ownBlock] at e; omega); have B2' := hide ((HB.out.trans (HAL.out.mono hsz)).trans (hb2.mono hsz)); have hs2 := hb2.size; rw [HSA.out] at hs2; clear hu2 hb2 hg2; obtain ⟨vs, hv, hvh, hvr, hva⟩ := O2.out; have HV := hide hv; have HVR := hide hvr; have HVA := hide hva; clear hv hvh hvr hva) | (at_builtin; refine wpList_push HV.out (.slice ua L uc) (.slice none 0 0) rfl _ _ rfl Tryz.underlying23 Tryz.infoInts rfl (by decide) rfl rfl rfl (by omega) (by omega) ?_; intro v' w6 hown1 hb1 hg1))
      go_roundw
      case rel =>
        have hs6 := hb1.size
        have hp := ownMat_push (w := w2) (r := row) (hi := wr.heap.size) (hi' := w6.heap.size) HVR.out HVA.out HV.out (by rw [← HLL.out]; exact HU2.out) hsz (by omega) (by omega) hg1 hown1 (fun q e => (hown1.lt q e).2)
        rw [← HTKK.out] at hp
        exact ⟨k + 1, _, by omega, by go_num, rfl, hp, B2'.out.trans (hb1.mono (by omega))⟩
      case measure => simp [intOf]; omega
    · obtain rfl : k = n := by omega
      have HF : Hid (m.take k = m) := hide (by rw [HNL.out, List.take_length])
      rw [HF.out] at HO
      go_wp2
      go_ret
      exact ⟨_, rfl, HO.out, HB.out⟩
end Go.Proofs.YtpfaaglaeholbaaGreat
