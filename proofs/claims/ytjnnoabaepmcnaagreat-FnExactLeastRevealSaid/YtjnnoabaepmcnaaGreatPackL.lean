/-
  Texts of this claim, one behind the other: RowsS, Subs, ImgBy, Rest, LeftS.
-/
import Derived.Test.YtjnnoabaepmcnaaGreatPackK
import Derived.Test.YtjnnoabaepmcnaaGreatPackJ
import Derived.Test.YtjnnoabaepmcnaaGreatPackD
import Derived.Test.YtjnnoabaepmcnaaGreatPackG
import Derived.Test.YtjnnoabaepmcnaaGreatPackH
import Derived.Test.YtjnnoabaepmcnaaGreatPackB
import Derived.Laws.OwnMore
import Derived.Great.BuildSlice
import Derived.Shelf.Abstract
/-
  l05Rows of the model: all rows of so many cells with so many black ones.
-/
namespace Go.Proofs.YtjnnoabaepmcnaaGreat
open Go.RowKit

/-- The rows whose first cell is k, .. is less than k. -/
def rowsPart (n : Nat) (s : Int) (k : Nat) : List (List Int) := if (k : Int) ≤ s then (rowsLn n (s - k)).map ((k : Int) :: ·) else []
def rowsParts (n : Nat) (s : Int) : Nat → List (List Int)
  | 0 => []
  | k + 1 => rowsParts n s k ++ rowsPart n s k
theorem rowsParts_two (n : Nat) (s : Int) : rowsParts n s 2 = rowsLn (n + 1) s := by
  simp only [rowsParts, rowsPart, rowsLn, List.nil_append]
  simp
theorem rowsL_len : ∀ (n : Nat) (s : Int), (rowsLn n s).length ≤ 2 ^ n
  | 0, s => by unfold rowsLn; split <;> simp
  | n + 1, s => by
    unfold rowsLn
    have h1 := rowsL_len n s
    have h2 := rowsL_len n (s - 1)
    rw [List.length_append, Nat.pow_succ]
    split <;> split <;> simp <;> omega
theorem rowsL_small (n : Nat) (s : Int) (hn : n ≤ 5) : (rowsLn n s).length ≤ 32 :=
  Nat.le_trans (rowsL_len n s) (Nat.le_trans (Nat.pow_le_pow_right (by decide) hn) (by decide))
theorem rowsParts_len (n : Nat) (s : Int) (hn : n ≤ 5) : ∀ k, (rowsParts n s k).length ≤ 32 * k
  | 0 => Nat.le_refl _
  | k + 1 => by
    rw [rowsParts, List.length_append]
    have h1 := rowsParts_len n s hn k
    have h2 : (rowsPart n s k).length ≤ 32 := by
      unfold rowsPart
      split
      · rw [List.length_map]; exact rowsL_small n _ hn
      · simp
    omega
theorem map_take_succ {α β : Type} (f : α → β) (l : List α) (j : Nat) (h : j < l.length) (P : List β) : P ++ (l.take (j + 1)).map f = (P ++ (l.take j).map f) ++ [f l[j]] := by
  rw [List.take_succ_eq_append_getElem h, List.map_append, List.append_assoc]; rfl

set_option maxHeartbeats 400000 in
theorem specRows_zero (s : Int) (w : World) : Calls Tryz.prog 56 #[.int .i64 0, .int .i64 s] w (MatRes (rowsLn 0 s) w) := by
  unfold rowsLn
  by_cases h : s = 0
  · subst h
    rw [if_pos rfl]
    go_enter Tryz.func56, Tryz.ntmps56
    go_wp2
    go_ret
    have h1 := (Below.refl w.heap.size w).alloc (Nat.le_refl _) (.cells #[] 3)
    have h2 : ((w.alloc (.cells #[] 3)).alloc (.cells #[.slice (some ⟨w.heap.size, 0, none⟩) 0 0] 23)).ownsRow w.heap.size 23 1 (.slice (some ⟨w.heap.size + 1, 0, none⟩) 1 1) 1 [.slice (some ⟨w.heap.size, 0, none⟩) 0 0] := by
      have := World.ownsRow_lit (e := 23) (size := 1) (base := w.heap.size) (w.alloc (.cells #[] 3)) #[.slice (some ⟨w.heap.size, 0, none⟩) 0 0] 1 (by simp) (by decide) rfl
      rwa [World.size_alloc] at this
    refine ⟨_, rfl, ⟨[.slice (some ⟨w.heap.size, 0, none⟩) 0 0], h2, ?_, fun i hi => ?_, fun i j hij hj => ?_⟩, h1.alloc (by simp) _⟩
    · intro k e
      simp [Value.ownBlock] at e
      simp; omega
    · obtain rfl : i = 0 := by simp at hi; exact hi
      refine ⟨own_below (World.ownsRow_made (base := w.heap.size) w #[] 0 (Nat.le_refl _) (Nat.zero_le _) rfl) ((Below.refl _ _).alloc (Nat.le_refl _) _), fun k e => ?_⟩
      simp [Value.ownBlock] at e
      simp; omega
    · simp at hj; omega
  · rw [if_neg h]
    have hs : (s == 0) = false := beq_eq_false_iff_ne.2 h
    go_enter Tryz.func56, Tryz.ntmps56
    go_wp2
    go_ret
    exact matRes_nil (Below.refl _ _)
set_option maxRecDepth 100000 in
set_option maxHeartbeats 4000000 in
theorem specRows_succ (n : Nat) (s : Int) (w : World) (hn : n + 1 ≤ 5) (hs : -1000 ≤ s ∧ s ≤ 1000)
    (ih : ∀ (s : Int) (w : World), (-1000 ≤ s ∧ s ≤ 1000) → Calls Tryz.prog 56 #[.int .i64 n, .int .i64 s] w (MatRes (rowsLn n s) w)) :
    Calls Tryz.prog 56 #[.int .i64 (n + 1 : Nat), .int .i64 s] w (MatRes (rowsLn (n + 1) s) w) := by
  rw [← rowsParts_two]
  have HIH : Hid (∀ (k : Nat) (w : World), (k : Int) ≤ s → k < 2 → Calls Tryz.prog 56 #[.int .i64 (((n + 1 : Nat) : Int) - 1), .int .i64 (s - k)] w (MatRes (rowsLn n (s - k)) w)) := hide fun k w h1 h2 => by
    rw [show (((n + 1 : Nat) : Int) - 1) = (n : Int) by omega]
    exact ih (s - k) w (by omega)
  have HPL := hide fun k => rowsParts_len n s (by omega) k
  have HSM := hide fun s => rowsL_small n s (by omega)
  have HP : Hid (∀ k : Nat, (k : Int) ≤ s → rowsParts n s k ++ (rowsLn n (s - k)).map ((k : Int) :: ·) = rowsParts n s (k + 1)) := hide fun k h => by rw [rowsParts, rowsPart, if_pos h]
  have HQ : Hid (∀ k : Nat, ¬ (k : Int) ≤ s → rowsParts n s (k + 1) = rowsParts n s k) := hide fun k h => by rw [rowsParts, rowsPart, if_neg h, List.append_nil]
  have HRL : Hid (∀ (s : Int) (r : List Int), r ∈ rowsLn n s → r.length = n) := hide fun s r h => ((mem_rowsL _ _ _).1 h).1
  obtain ⟨N, hN⟩ : ∃ N, N = n + 1 := ⟨_, rfl⟩
  have hN1 : 1 ≤ N := by omega
  have hN5 : N ≤ 5 := by omega
  have hN0 : ((N : Int) == 0) = false := beq_eq_false_iff_ne.2 (by omega)
  rw [← hN] at HIH ⊢
  obtain ⟨hs1, hs2⟩ := hs
  have HNN : Hid (n ≤ 5) := hide (by omega)
  clear ih hN hn
  go_enter Tryz.func56, Tryz.ntmps56
  go_wp2
  go_loopw [5, 6] (fun o x w' => ∃ (k : Nat) (v : Value), k ≤ 2 ∧ x = .int .i64 k ∧ v = o ∧ OwnMat w' w.heap.size w'.heap.size v (rowsParts n s k) ∧ Below w.heap.size w w') (fun _ x _ => 2 - (intOf x).toNat)
  case atStart => exact ⟨0, _, Nat.zero_le _, rfl, rfl, ⟨[], World.ownsRow_made (base := w.heap.size) w #[] 0 (Nat.le_refl _) (Nat.zero_le _) rfl, (fun k e => by simp [Value.ownBlock] at e; subst e; simp), (fun i h => absurd h (Nat.not_lt_zero _)), fun i j _ h => absurd h (Nat.not_lt_zero _)⟩, (Below.refl _ _).alloc (Nat.le_refl _) _⟩
  case round =>
    obtain ⟨k, v, hk, rfl, rfl, hown, hb⟩ := hrel
    have HO := hide hown; have HB := hide hb
    clear hown hb
    by_cases hlt : k < 2
    · have hltI : (k : Int) < 2 := by omega
      by_cases hge : (k : Int) ≤ s
      · have hsz := HB.out.size
        have HREC := hide (HIH.out k wr hge hlt)
        have HPK := hide (HP.out k hge)
        have HLL := hide (HSM.out (s - k))
        have HRLK := hide (HRL.out (s - k))
        have HPL2 := hide (HPL.out k)
        obtain ⟨L, hL⟩ : ∃ L, L = rowsLn n (s - k) := ⟨_, rfl⟩
        rw [← hL] at HREC HPK HLL HRLK
        obtain ⟨B1, hB1⟩ : ∃ B1, B1 = wr.heap.size := ⟨_, rfl⟩
        have HB1 := hide hB1
        clear hL
        go_wp2_with fail
        refine HREC.out.mono ?_
        rintro e w4 ⟨u, rfl, hu, hb4⟩
        rw [← hB1] at hu hsz
        obtain ⟨xu, cu, rfl⟩ : ∃ a c, u = .slice a L.length c := by obtain ⟨a, c, rfl, -⟩ := inMat_own hu; exact ⟨a, c, rfl⟩
        have HU := hide hu
        have HO4 := hide (ownMat_mono (ownMat_below HO.out hb4) (Nat.le_refl _) hb4.size)
        have HB4 := hide (HB.out.trans (hb4.mono (by omega)))
        have HV4 : Hid (∀ q, v.ownBlock = some q → q < B1 ∨ w4.heap.size ≤ q) := hide fun q hq => by
          obtain ⟨vs, -, hh, -⟩ := HO.out
          have := hh q hq; omega
        have hs4 := hb4.size
        rw [← hB1] at hs4
        obtain ⟨B2, hB2⟩ : ∃ B2, B2 = w4.heap.size := ⟨_, rfl⟩
        rw [← hB2] at HU HV4 hs4
        have HOL : Hid (OwnMat w4 w.heap.size w4.heap.size v (rowsParts n s k ++ (L.take 0).map ((k : Int) :: ·))) := hide (by simpa using HO4.out)
        obtain ⟨LL, hLL⟩ : ∃ LL, LL = L.length := ⟨_, rfl⟩
        have HLE := hide hLL
        rw [← hLL] at HU HLL ⊢
        have HS4 := hide hs4
        have HB2 := hide (Nat.le_of_eq hB2)
        clear hu hb4 hB1 hB2 hLL HO HO4 HREC HB hs4
        go_wp2
        go_loopw [5, 30] (fun o i w' => ∃ (j : Nat) (v : Value), j ≤ LL ∧ i = .int .i64 j ∧ v = o ∧ OwnMat w' w.heap.size w'.heap.size v (rowsParts n s k ++ (L.take j).map ((k : Int) :: ·)) ∧ OwnMat w' B1 B2 (.slice xu LL cu) L ∧ (∀ q, v.ownBlock = some q → q < B1 ∨ B2 ≤ q) ∧ B2 ≤ w'.heap.size ∧ Below w.heap.size w w') (fun _ i _ => LL - (intOf i).toNat)
        case atStart => exact ⟨0, _, Nat.zero_le _, rfl, rfl, HOL.out, HU.out, HV4.out, HB2.out, HB4.out⟩
        case round =>
          clear HOL HU HV4 HB4 HB2
          obtain ⟨j, v, hj, rfl, rfl, hown, hol, hvq, hb2, hb⟩ := hrel
          have HO := hide hown; have HOL := hide hol; have HVQ := hide hvq; have HB2 := hide hb2; have HB := hide hb
          clear hown hvq hb2 hb
          by_cases hltj : j < LL
          · have hjl : j < L.length := by rw [← HLE.out]; exact hltj
            have hltI2 : (j : Int) < LL := by omega
            have hLL32 : LL ≤ 32 := HLL.out
            have HSTEP := hide (map_take_succ (fun x => (k : Int) :: x) L j hjl (rowsParts n s k))
            have HRN := hide (HRLK.out L[j] (List.getElem_mem hjl))
            obtain ⟨M, hM⟩ : ∃ M, M = rowsParts n s k ++ (L.take j).map ((k : Int) :: ·) := ⟨_, rfl⟩
            have HML : Hid (M.length ≤ 1000) := hide (by
              rw [hM, List.length_append, List.length_map, List.length_take]
              have := HPL2.out; have := HLL.out; omega)
            rw [← hM] at HO HSTEP
            obtain ⟨vs, hv, -, hr, -⟩ := hol
            rw [← HLE.out] at hv
            obtain ⟨gu, cu', he, -, -, -, -, -, -⟩ := own_some hv (by omega)
            cases he
            have hx := cell_held hv hltj
            have hrow := hr j hjl
            obtain ⟨row, hrw⟩ : ∃ row, row = L[j] := ⟨_, rfl⟩
            obtain ⟨uj, huj⟩ : ∃ uj, uj = vs.getD j undef := ⟨_, rfl⟩
            rw [← hrw] at HSTEP HRN hrow
            rw [← huj] at hx hrow
            obtain ⟨xr, cr, he⟩ := own_slice hrow.1
            rw [HRN.out] at he
            have HROW := hide hrow.1
            have hML := HML.out; have hNN := HNN.out
            have hsz := HB.out.size
            have hbb := HB2.out
            clear hv hr hrw huj hM hrow
            subst he
            have HX : Hid ((wr.alloc (.cells #[.int .i64 k] 3)).ownsRow wr.heap.size 3 1 (.slice (some ⟨wr.heap.size, 0, none⟩) 1 1) 1 [.int .i64 k]) := hide (World.ownsRow_lit (e := 3) (size := 1) (base := wr.heap.size) wr #[.int .i64 k] 1 (Nat.le_refl _) (by decide) rfl)
            have HAL := hide ((Below.refl wr.heap.size wr).alloc (Nat.le_refl _) (.cells #[.int .i64 k] 3))
            have HSA : Hid ((wr.alloc (.cells #[.int .i64 k] 3)).heap.size = wr.heap.size + 1) := hide (by simp)
            have HROWA := hide (own_below HROW.out HAL.out)
            have HOA := hide (ownMat_below HO.out HAL.out); have HLA := hide (ownMat_below HOL.out HAL.out)
            go_wp2_with (first | (refine wpList_appendOwn 38 rfl HX.out row HROWA.out (.int .i64 0) rfl _ _ rfl Tryz.underlying23 Tryz.infoInt rfl (by decide) rfl rfl (by rw [HRN.out]; omega) (by rw [HSA.out]; omega) ?_; intro u2 w2 hu2 hb2 hg2; rw [Nat.add_comm 1 row.length] at hu2; obtain ⟨ua, uc, rfl⟩ := own_slice hu2; have HU2 := hide hu2; have O2 := hide (ownMat_grown HOA.out hg2 fun q e => by simp [Value.ownBlock] at e; omega); have L2 := hide (ownMat_grown HLA.out hg2 fun q e => by simp [Value.ownBlock] at e; omega); have B2' := hide ((HB.out.trans (HAL.out.mono hsz)).trans (hb2.mono hsz)); have hs2 := hb2.size; rw [HSA.out] at hs2; clear hu2 hb2 hg2; obtain ⟨vs, hv, hvh, hvr, hva⟩ := O2.out; have HV := hide hv; have HVR := hide hvr; have HVA := hide hva; clear hv hvh hvr hva) | (at_builtin; refine wpList_pushl HV.out (.slice ua (row.length + 1) uc) (.slice none 0 0) rfl _ _ rfl Tryz.underlying22 Tryz.infoInts rfl (by decide) rfl rfl rfl (by omega) (by omega) ?_; intro g1 cap1 w6 hown1 hb1 hg1 hat1))
            go_roundw
            case rel =>
              have hs6 := hb1.size
              have hints : ([Value.int .i64 k] ++ ints row) = ints ((k : Int) :: row) := rfl
              have hp := ownMat_push (w := w2) (r := (k : Int) :: row) (hi := wr.heap.size) (hi' := w6.heap.size) HVR.out HVA.out HV.out (by rw [List.length_cons, ← hints]; exact HU2.out) hsz (by omega) (by omega) hg1 hown1 (fun q e => (hown1.lt q e).2)
              rw [← HSTEP.out] at hp
              refine ⟨j + 1, _, by omega, by go_num, rfl, hp, ownMat_grown L2.out hg1 HVQ.out, fun q e => ?_, by omega, B2'.out.trans (hb1.mono (by omega))⟩
              rcases hat1 with h1 | h1
              · simp [Value.ownBlock] at e
                subst e
                exact HVQ.out _ h1
              · simp [Value.ownBlock] at e; omega
            case measure => simp [intOf]; omega
          · obtain rfl : j = LL := by omega
            have HFIN : Hid (rowsParts n s k ++ (L.take j).map ((k : Int) :: ·) = rowsParts n s (k + 1)) := hide (by rw [HLE.out, List.take_length]; exact HPK.out)
            rw [HFIN.out] at HO
            clear hol
            go_wp2
            go_roundw
            case rel => exact ⟨k + 1, _, by omega, by go_num, rfl, HO.out, HB.out⟩
            case measure => simp [intOf]; omega
      · have HQK := hide (HQ.out k (by omega))
        go_wp2
        go_roundw
        case rel => exact ⟨k + 1, _, by omega, by go_num, rfl, by rw [HQK.out]; exact HO.out, HB.out⟩
        case measure => simp [intOf]; omega
    · obtain rfl : k = 2 := by omega
      go_wp2
      go_ret
      exact ⟨_, rfl, HO.out, HB.out⟩
theorem specRows_any : ∀ (n : Nat) (s : Int) (w : World), n ≤ 5 → (-1000 ≤ s ∧ s ≤ 1000) → Calls Tryz.prog 56 #[.int .i64 n, .int .i64 s] w (MatRes (rowsLn n s) w)
  | 0, s, w, _, _ => specRows_zero s w
  | n + 1, s, w, hn, hs => specRows_succ n s w hn hs fun s w h => specRows_any n s w (by omega) h
end Go.Proofs.YtjnnoabaepmcnaaGreat
/-
  slices.Clone at integers; sumsWithout of the program; slices with their capacity.
-/
namespace Go.Proofs.YtjnnoabaepmcnaaGreat
open Go.RowKit

theorem clone_any (v : Value) (r : List Int) (w : World) (hin : InRow w v r) (hn : r.length ≤ 2000000) :
    Calls Tryz.prog 69 #[v] w (IntsRes r w) := by
  obtain ⟨a, c, rfl, hm, hp⟩ := hin
  by_cases h0 : r.length = 0
  · obtain rfl : r = [] := List.eq_nil_of_length_eq_zero h0
    cases a with
    | none =>
      refine (Tryz.slices_Clone_int_nil 0 c w).mono ?_
      rintro e w' ⟨rfl, rfl⟩
      exact intsRes_nil (Below.refl _ _)
    | some x =>
      refine (Tryz.slices_Clone_int_zero x c w).mono ?_
      rintro e w' ⟨v', rfl, ho, -, hb⟩
      exact ⟨v', rfl, ho, hb⟩
  · obtain ⟨g, o, rfl, -, hc⟩ := hp.resolve_left h0
    refine (Tryz.slices_Clone_int g o r.length c r w (Nat.le_refl _) (by omega) (fun j hj => ?_)).mono ?_
    · rw [hc j hj, List.getD_eq_getElem?_getD, List.getElem?_eq_getElem hj]; rfl
    rintro e w' ⟨v', rfl, ho, -, hb⟩
    rw [List.take_length] at ho
    exact ⟨v', rfl, ho, hb⟩
/-- What has been left behind k cells of the row. -/
def subF (c row : List Int) (k x : Nat) : Int := c.getD x 0 - if x < k then row.getD x 0 else 0
theorem subF_zero (c row : List Int) : tabL c.length (subF c row 0) = c := by
  rw [show tabL c.length (subF c row 0) = tabL c.length (fun x => c.getD x 0) from tabL_congr fun i _ => by rw [subF, if_neg (Nat.not_lt_zero _)]; simp]
  exact tabL_self c
theorem subF_all (c row : List Int) (k : Nat) (h : c.length ≤ k) : tabL c.length (subF c row k) = subL c row :=
  tabL_congr fun i hi => by rw [subF, if_pos (by omega)]
set_option maxHeartbeats 1000000 in
theorem sumsWithout_any (vc vr : Value) (c row : List Int) (w : World) (hc : InRow w vc c) (hr : InRow w vr row) (hl : row.length = c.length) (hn : c.length ≤ 5) (hM : ∀ x, x < c.length → -1000 ≤ c.getD x 0 ∧ c.getD x 0 ≤ 1000) (hR : ∀ x, x < c.length → -1000 ≤ row.getD x 0 ∧ row.getD x 0 ≤ 1000) :
    Calls Tryz.prog 68 #[vc, vr] w (IntsRes (subL c row) w) := by
  have HCL := hide (clone_any vc c w hc (by omega))
  have HM := hide hM; have HRR := hide hR
  obtain ⟨a, ca, rfl, hm, hp⟩ := hr
  unfold maxLen at hm
  have HP := hide fun h : row.length ≠ 0 => hp.resolve_left h
  have HZ := hide (subF_zero c row); have HA := hide (subF_all c row)
  have HX : Hid (∀ x, (h : x < row.length) → row.getD x 0 = row[x]) := hide fun x h => by rw [List.getD_eq_getElem?_getD, List.getElem?_eq_getElem h]; rfl
  rw [hl] at hm ⊢
  have HLL : Hid (row.length = c.length) := hide hl
  obtain ⟨C, hC⟩ : ∃ C, C = c.length := ⟨_, rfl⟩
  have HC := hide hC
  rw [← hC] at HZ HA hm hn HM HRR HLL ⊢
  clear hc hM hR hp hC hl
  go_enter Tryz.func68, Tryz.ntmps68
  go_wp2_with fail
  refine HCL.out.mono ?_
  rintro e w1 ⟨v1, rfl, ho, hb⟩
  rw [← HC.out] at ho
  obtain ⟨xa, xc, rfl⟩ := own_slice ho
  have HO := hide ho; have HB := hide hb
  clear ho hb
  go_wp2
  go_loopw [12] (fun i w' => ∃ k : Nat, k ≤ C ∧ i = .int .i64 k ∧ w'.ownsRow w.heap.size 3 1 (.slice xa C xc) C (ints (tabL C (subF c row k))) ∧ Below w.heap.size w w') (fun i _ => C - (intOf i).toNat)
  case atStart => exact ⟨0, Nat.zero_le _, rfl, by rw [HZ.out]; exact HO.out, HB.out⟩
  case round =>
    clear HO HB
    obtain ⟨k, hk, rfl, hown, hb⟩ := hrel
    have HO := hide hown; have HB := hide hb
    clear hb
    by_cases hlt : k < C
    · have hkr : k < row.length := by rw [HLL.out]; exact hlt
      obtain ⟨g, o, rfl, hg, hcell⟩ := HP.out (by omega)
      obtain ⟨g1, c1, he, hb1, -, -, -, -, -⟩ := own_some hown (by omega)
      cases he
      have hx := below_cell HB.out hg (hcell k hkr)
      rw [← HX.out k hkr] at hx
      have hc1 := cell_held HO.out hlt
      rw [tabL_held hlt, subF, if_neg (Nat.lt_irrefl k), Int.sub_zero] at hc1
      have hf := HO.out.frozenAt k
      have hm1 := HM.out k hlt
      have hm2 := HRR.out k hlt
      have HS := HO.out.stored k (.int .i64 (c.getD k 0 - row.getD k 0))
      rw [ints_set, tabL_set] at HS
      rw [show (tabL C fun t => if t = k then c.getD k 0 - row.getD k 0 else subF c row k t) = tabL C (subF c row (k + 1)) from tabL_congr fun i _ => by
        unfold subF
        by_cases e : i = k
        · subst e; rw [if_pos rfl, if_pos (Nat.lt_succ_self _)]
        · rw [if_neg e]
          by_cases e' : i < k
          · rw [if_pos e', if_pos (by omega)]
          · rw [if_neg e', if_neg (by omega)]] at HS
      have HS := hide HS
      obtain ⟨x1, hx1⟩ : ∃ x1, x1 = c.getD k 0 := ⟨_, rfl⟩
      obtain ⟨x2, hx2⟩ : ∃ x2, x2 = row.getD k 0 := ⟨_, rfl⟩
      rw [← hx1] at hc1 hm1 HS
      rw [← hx2] at hx hm2 HS
      obtain ⟨hm11, hm12⟩ := hm1
      obtain ⟨hm21, hm22⟩ := hm2
      clear hx1 hx2 hown hcell
      go_wp2
      go_roundw
      case rel => exact ⟨k + 1, by omega, by go_num, HS.out.1, HB.out.setCell hb1 _⟩
      case measure => simp [intOf]; omega
    · obtain rfl : k = C := by omega
      have HF := hide (HA.out k (Nat.le_refl _))
      rw [HF.out] at HO
      clear hown
      go_wp2
      go_ret
      exact ⟨_, rfl, by rw [subL_len, ← HC.out]; exact HO.out, HB.out⟩

/-- The slice reads as r, and its capacity is no less than its length. -/
def RowC (w : World) (v : Value) (r : List Int) : Prop := InRow w v r ∧ ∃ a c, v = .slice a r.length c ∧ r.length ≤ c ∧ c ≤ maxLen
theorem rowC_below {w w' : World} {v : Value} {r : List Int} (h : RowC w v r) (hb : Below w.heap.size w w') : RowC w' v r := ⟨inRow_below h.1 hb, h.2⟩
theorem rowC_own {w : World} {base : Nat} {v : Value} {r : List Int} (h : w.ownsRow base 3 1 v r.length (ints r)) : RowC w v r := by
  refine ⟨inRow_own h, ?_⟩
  rcases h.2 with ⟨rfl, h0⟩ | ⟨g, cap, cur, rfl, hbg, hg, hc, hm, _⟩
  · exact ⟨none, 0, by rw [h0], by omega, Nat.zero_le _⟩
  · exact ⟨_, _, rfl, hc, hm⟩
theorem rowC_tail {w : World} {g o n c : Nat} {x : Int} {r : List Int} (h : RowC w (.slice (some ⟨g, o, none⟩) n c) (x :: r)) : RowC w (.slice (if c = 1 then some ⟨g, o, none⟩ else some ⟨g, o + 1, none⟩) (n - 1) (c - 1)) r := by
  obtain ⟨⟨a, c', he, hm, hp⟩, a2, c2, he2, hl, hmx⟩ := h
  cases he; cases he2
  simp only [List.length_cons, Nat.add_sub_cancel] at hl hm ⊢
  refine ⟨⟨_, _, rfl, by omega, ?_⟩, _, _, rfl, by omega, by omega⟩
  obtain ⟨g', o', he', hg, hc⟩ := hp.resolve_left (by simp)
  cases he'
  by_cases h0 : r.length = 0
  · exact .inl h0
  · rw [if_neg (by omega)]
    refine .inr ⟨g, o + 1, rfl, hg, fun i hi => ?_⟩
    have := hc (i + 1) (by simp; omega)
    rw [List.getElem_cons_succ] at this
    rw [← this, show o + (i + 1) = o + 1 + i by omega]
end Go.Proofs.YtjnnoabaepmcnaaGreat
/-
  imageBy of the program: rows continued by a function that calls itself through a variable.
-/
namespace Go.Proofs.YtjnnoabaepmcnaaGreat
open Go.RowKit Go.Shelf

/-- A call of a function value that a slot holds. -/
theorem run_callv {P : Program} {Q : Exit → Act → World → Prop} {o : Oper} {a : Act} {w : World} {K : Act → World → Prop} {f : FuncId} {cb : Array Value} {x : Operand} {xs : Array Operand} {ts : Array TypeId} (ho : o.op = .call { callee := .value x, args := xs, argTypes := ts })
    (hx : a.eval x = .func (.func f) #[] cb) (eg : ∀ args w, (callFunc f args).run P w = .ok (.enter f args) w) (args : Array Value) (hxs : xs.map a.eval = args) (h : Calls P f (args ++ cb) w fun e w' => ∃ v, e = .returned v ∧ K (a.put o.dst v) w') : o.wp P a w K Q := by
  subst hxs
  unfold Oper.wp
  simp only [execOp, ho, resolve, hx, Deferred.ofValue]
  simp [invoke, eg, Oper.upon]
  refine Calls.mono h ?_
  rintro e w' ⟨v, rfl, hk⟩
  exact hk

/-- 'append([][]int{row}, rest...)'. -/
theorem exec_consMat {ρ : Operand → Value} {o : Oper} {w : World} {x y : Operand} {b lo0 hi0 lo hi : Nat} {v2 urow : Value} {row : List Int} {m2 : List (List Int)}
    (ho : o.op = .call { callee := .builtin .append, args := #[x, y], argTypes := #[22, 22] }) (hx : ρ x = .slice (some ⟨b, 0, none⟩) 1 1) (hy : ρ y = v2)
    (hown : w.ownsRow b 23 1 (.slice (some ⟨b, 0, none⟩) 1 1) 1 [urow]) (hrow : w.ownsRow lo0 3 1 urow row.length (ints row)) (hrk : ∀ k, urow.ownBlock = some k → k < hi0)
    (hm : OwnMat w lo hi v2 m2) (h1 : lo0 ≤ hi0) (h2 : hi0 ≤ lo) (h3 : hi0 ≤ b) (h4 : hi ≤ w.heap.size) (h5 : m2.length ≤ 1000) (h6 : b < w.heap.size) :
    ∃ v' w', (execOp ρ o).run Tryz.prog w = .ok (.value v') w' ∧ OwnMat w' lo0 w'.heap.size v' (row :: m2) ∧ w.grownBy w' (some b) := by
  obtain ⟨vs, hv, hvh, hvr, hva⟩ := hm
  have hvl : vs.length = m2.length := by have := hv.1; omega
  obtain ⟨i0, hi0', hz0, hz1, hz2⟩ := info_parts Tryz.infoInts
  have key : ∃ v' w', (Builtin.append_ #[22, 22] o.type #[.slice (some ⟨b, 0, none⟩) 1 1, v2]).run Tryz.prog w = .ok v' w' ∧ w'.ownsRow b 23 1 v' (1 + m2.length) ([urow] ++ vs) ∧ w.grownBy w' (some b) := by
    rcases hv.2 with ⟨rfl, h0⟩ | ⟨g, cap, cur, rfl, hbg, hg, hc, hmx, hcs, htk⟩
    · have hvs : vs = [] := List.eq_nil_of_length_eq_zero (by omega)
      refine ⟨_, w, run_append_owned_none (P := Tryz.prog) w b 22 o.type 23 i0 1 Tryz.underlying22 hi0' _ 1 [urow] hown, ?_, ⟨rfl, rfl, rfl, Nat.le_refl _, fun _ _ _ => rfl⟩⟩
      rw [hvs, h0]; exact hown
    · obtain ⟨v', w', hr, g1, g2, -⟩ := run_append_own (P := Tryz.prog) w b 22 o.type 23 i0 (.slice none 0 0) 1 24 Tryz.underlying22 hi0' hz0 hz1 hz2 rfl (by decide) _ 1 [urow] hown ⟨g, 0, none⟩ m2.length cap vs (by omega) (fun j u hj => by
          rw [addr_add, Nat.zero_add]
          have hj' : j < m2.length := by have := (List.getElem?_eq_some_iff.1 hj).1; omega
          rw [hv.cellAt j (by omega), hj]) (fun u hu => by
          obtain ⟨j, hj, rfl⟩ := List.getElem_of_mem hu
          obtain ⟨q1, -⟩ := hvr j (by omega)
          rw [List.getD_eq_getElem?_getD, List.getElem?_eq_getElem hj, Option.getD_some] at q1
          obtain ⟨a, c, e⟩ := own_slice q1
          rw [e]; rfl) (by unfold maxLen; omega) (by omega) (by omega)
      exact ⟨v', w', hr, g1, g2⟩
  obtain ⟨v', w', hr, g1, g2⟩ := key
  have hsz := g2.size
  have hkeep : ∀ {lo n : Nat} {u : Value} {xs : List Value}, w.ownsRow lo 3 1 u n xs → w'.ownsRow lo 3 1 u n xs := fun {lo n u xs} h => h.kept g2 (by
    have := own_types h hown (by decide)
    simpa [Value.ownBlock] using this)
  refine ⟨v', w', ?_, ⟨urow :: vs, ?_, fun k e => (g1.lt k e).2, fun i h => ?_, fun i j hij hj => ?_⟩, g2⟩
  · unfold execOp
    simp only [ho, resolve, invoke, builtin, Sem.run_bind, Sem.run_pure, Result.andThen_ok, List.map_toArray, List.map_cons, List.map_nil, hx, hy, hr]
  · have := own_base (base' := lo0) g1 (by omega)
    rw [List.length_cons, Nat.add_comm]; exact this
  · cases i with
    | zero => exact ⟨hkeep hrow, fun k hk => by have := hrk k hk; omega⟩
    | succ i =>
      have hi' : i < m2.length := by simpa using h
      obtain ⟨q1, q2⟩ := hvr i hi'
      exact ⟨own_base (hkeep q1) (by omega), fun k hk => by have := q2 k hk; omega⟩
  · cases j with
    | zero => omega
    | succ j =>
      have hj' : j < m2.length := by simpa using hj
      cases i with
      | zero =>
        show urow.ownBlock = none ∨ urow.ownBlock ≠ (vs.getD j undef).ownBlock
        cases hk : urow.ownBlock with
        | none => exact .inl rfl
        | some k =>
          refine .inr fun e => ?_
          have q1 := hrk k hk
          have q2 := ((hvr j hj').1.lt k e.symm).1
          omega
      | succ i => exact hva i j (by omega) hj'

/-- What is asked of the choice of the next row. -/
structure Choice (g : Nat) (ch : List Int → List Int → List Int) (Inv : List Int → List Int → Prop) : Prop where
  enters : ∀ args w, (callFunc g args).run Tryz.prog w = .ok (.enter g args) w
  calls : ∀ (a : Int) (r c : List Int) (vr vc : Value) (w : World), Inv (a :: r) c → RowC w vr (a :: r) → InRow w vc c → Calls Tryz.prog g #[vr, vc] w (IntsRes (ch (a :: r) c) w)
  next : ∀ (a : Int) (r c : List Int), Inv (a :: r) c → r.length ≤ 4 ∧ c.length ≤ 5 ∧ (ch (a :: r) c).length = c.length ∧ Inv r (subL c (ch (a :: r) c)) ∧ (∀ x, x < c.length → -1000 ≤ c.getD x 0 ∧ c.getD x 0 ≤ 1000) ∧ ∀ x, x < c.length → -1000 ≤ (ch (a :: r) c).getD x 0 ∧ (ch (a :: r) c).getD x 0 ≤ 1000

/-- A list of one row, made behind B. -/
def oneRow (B : Nat) (u0 : Value) : FactP := fun u w2 => ∃ b, u = .slice (some ⟨b, 0, none⟩) 1 1 ∧ B ≤ b ∧ b < w2.heap.size ∧ w2.ownsRow b 23 1 (.slice (some ⟨b, 0, none⟩) 1 1) 1 [u0]
theorem stable_oneRow (B : Nat) (u0 : Value) : StableP (oneRow B u0) := fun _ _ _ hb h => by
  obtain ⟨b, h1, h2, h3, h4⟩ := h
  exact ⟨b, h1, h2, Nat.lt_of_lt_of_le h3 hb.size, own_below h4 hb⟩
def ownI (B : Nat) (r : List Int) : FactP := fun u w2 => w2.ownsRow B 3 1 u r.length (ints r)
theorem stable_ownI (B : Nat) (r : List Int) : StableP (ownI B r) := fun _ _ _ hb h => own_below h hb
def ownM (B : Nat) (m : List (List Int)) : FactP := fun u w2 => ∃ lo hi, B ≤ lo ∧ hi ≤ w2.heap.size ∧ OwnMat w2 lo hi u m
theorem stable_ownM (B : Nat) (m : List (List Int)) : StableP (ownM B m) := fun _ _ _ hb h => by
  obtain ⟨lo, hi, h1, h2, h3⟩ := h
  exact ⟨lo, hi, h1, Nat.le_trans h2 hb.size, ownMat_below h3 hb⟩
theorem exec_build1 {ρ : Operand → Value} {o : Oper} {w : World} {x : Operand} {a : Option Addr} {n c : Nat} (ho : o.op = .buildSlice 22 1 #[(0, x)]) (hx : ρ x = .slice a n c) :
    (execOp ρ o).run Tryz.prog w = .ok (.value (.slice (some ⟨w.heap.size, 0, none⟩) 1 1)) (w.alloc (.cells #[.slice a n c] 23)) := by
  unfold execOp
  simp only [ho]
  go_simp

theorem setRow_size (w : World) (g : Nat) (cs : Array Value) : (w.setRow g cs).heap.size = w.heap.size := by simp [World.setRow]
theorem setRow_below (B : Nat) (w : World) (g : Nat) (cs : Array Value) (h : B ≤ g) : Below B w (w.setRow g cs) :=
  ⟨rfl, rfl, rfl, by rw [setRow_size]; exact Nat.le_refl _, fun k hk => setRow_other w g k cs (by omega)⟩
theorem cell_setRow_ne (w : World) (g k : Nat) (cs : Array Value) (h : k ≠ g) : (w.setRow g cs).cell? ⟨k, 0, none⟩ = w.cell? ⟨k, 0, none⟩ := by
  unfold World.cell?
  dsimp only
  rw [setRow_other w g k cs h]
end Go.Proofs.YtjnnoabaepmcnaaGreat
/-
  restExists, the predicate of rowsAt, rowsAt, leastRow of the program.
-/
namespace Go.Proofs.YtjnnoabaepmcnaaGreat
open Go.RowKit Go.Shelf

theorem bitRows_rowsL (C : Nat) (hC : 1 ≤ C ∧ C ≤ 5) (s : Int) : bitRows C s (2 ^ C) = rowsLn C s := by
  obtain ⟨h1, h2⟩ := hC
  by_cases hs : 0 ≤ s ∧ s ≤ 5
  · obtain ⟨k, rfl⟩ : ∃ k : Nat, s = k := ⟨s.toNat, by omega⟩
    have hk : k ≤ 5 := by omega
    have key : ∀ C : Nat, C ≤ 5 → ∀ k : Nat, k ≤ 5 → bitRows C (k : Int) (2 ^ C) = rowsLn C (k : Int) := by decide +kernel
    exact key C h2 k hk
  · have e1 : rowsLn C s = [] := by
      rw [List.eq_nil_iff_forall_not_mem]
      intro row hr
      obtain ⟨g1, g2, g3⟩ := (mem_rowsL _ _ _).1 hr
      have h0 := sum_nonneg01 row g2
      have h5 : ∀ l : List Int, (∀ x ∈ l, x = 0 ∨ x = 1) → l.sum ≤ l.length := fun l => by
        induction l with
        | nil => intro _; exact Int.le_refl _
        | cons x l ih =>
          intro h
          have := ih fun y hy => h y (List.mem_cons_of_mem _ hy)
          have := h x List.mem_cons_self
          rw [List.sum_cons, List.length_cons]; omega
      have := h5 row g2
      omega
    have e2 : bitRows C s (2 ^ C) = [] := by
      unfold bitRows
      rw [List.map_eq_nil_iff, List.filter_eq_nil_iff]
      intro n _
      have : pop5 n ≤ 5 := by unfold pop5; omega
      simp only [decide_eq_true_eq]; omega
    rw [e1, e2]

set_option maxHeartbeats 400000 in
theorem restExists_any (va vb : Value) (r c : List Int) (w : World) (ha : InRow w va r) (hb : InRow w vb c) :
    Calls Tryz.prog 82 #[va, vb] w fun e w' => e = .returned (.bool (restB r c)) ∧ Below w.heap.size w w' := by
  have HE := hide (implExists_any va vb r c w ha hb); have HS := hide (sumsInRange_any vb c 0 w hb)
  obtain ⟨a, ca, rfl, hm, -⟩ := ha
  unfold maxLen at hm
  unfold restB
  cases r with
  | nil =>
    rw [if_pos rfl]
    clear hb HE
    simp only [List.length_nil] at hm ⊢
    go_enter Tryz.func82, Tryz.ntmps82
    go_wp2_with (go_at_call 91; refine HS.out.mono ?_; rintro e w1 ⟨rfl, b1⟩; have B1 := hide b1; clear b1)
    go_ret
    exact ⟨rfl, B1.out⟩
  | cons x l =>
    rw [if_neg (by simp)]
    clear hb HS
    obtain ⟨n, hn⟩ : ∃ n, n = (x :: l).length := ⟨_, rfl⟩
    have hn1 : 1 ≤ n := by rw [hn]; simp
    rw [← hn] at hm HE ⊢
    have hn0 : ((n : Int) == 0) = false := beq_eq_false_iff_ne.2 (by omega)
    clear hn
    go_enter Tryz.func82, Tryz.ntmps82
    go_wp2_with (go_at_call 92; refine HE.out.mono ?_; rintro e w1 ⟨rfl, b1⟩; have B1 := hide b1; clear b1)
    go_ret
    exact ⟨rfl, B1.out⟩

/-- Numbers that sumsWithout can reckon with. -/
def Mid1000 (c : List Int) : Prop := c.length ≤ 5 ∧ ∀ x, x < c.length → -1000 ≤ c.getD x 0 ∧ c.getD x 0 ≤ 1000
theorem mid_rowOf {n : Nat} {a : Int} {row : List Int} (h : RowOf n a row) (hn : n ≤ 5) : Mid1000 row := by
  refine ⟨by rw [h.1]; exact hn, fun x hx => ?_⟩
  have := rowOf_cell h (x := x) (by rw [← h.1]; exact hx)
  omega
set_option maxRecDepth 100000 in
set_option maxHeartbeats 1000000 in
theorem rowsPred_any (vo vc u : Value) (o c row : List Int) (qo qc : Nat) (w : World) (hqo : qo < w.heap.size) (hqc : qc < w.heap.size) (hvo : w.cell? ⟨qo, 0, none⟩ = some vo) (hvc : w.cell? ⟨qc, 0, none⟩ = some vc) (hO : InRow w vo o) (hC : InRow w vc c) (hU : InRow w u row) (hl : row.length = c.length) (hM : Mid1000 c) (hR : Mid1000 row) :
    Calls Tryz.prog 81 #[u, .pointer (some ⟨qo, 0, none⟩), .pointer (some ⟨qc, 0, none⟩)] w fun e w' => e = .returned (.bool (!restB o (subL c row))) ∧ Below w.heap.size w w' := by
  have HO := hide hO; have HC := hide hC; have HU := hide hU; have HL := hide hl; have HM := hide hM; have HR := hide hR; have HQO := hide hqo; have HQC := hide hqc; have HVO := hide hvo; have HVC := hide hvc
  obtain ⟨ao, no, co, hvo'⟩ : ∃ a n c, vo = .slice a n c := by obtain ⟨a, c, rfl, -⟩ := hO; exact ⟨a, _, c, rfl⟩
  obtain ⟨ac, nc, cc, hvc'⟩ : ∃ a n c, vc = .slice a n c := by obtain ⟨a, c, rfl, -⟩ := hC; exact ⟨a, _, c, rfl⟩
  obtain ⟨au, nu, cu, hu'⟩ : ∃ a n c, u = .slice a n c := by obtain ⟨a, c, rfl, -⟩ := hU; exact ⟨a, _, c, rfl⟩
  obtain ⟨b, hb⟩ : ∃ b, b = restB o (subL c row) := ⟨_, rfl⟩
  have HBB := hide hb
  rw [← hb]
  clear hO hC hU hl hM hR hqo hqc hvo hvc hb
  subst hvo' hvc' hu'
  go_enter Tryz.func81, Tryz.ntmps81
  go_wp2
  obtain ⟨fs, hfs⟩ : ∃ fs : List FactP, fs = [isV (.slice ao no co), isV (.slice ac nc cc), isV (.slice au nu cu), ownI w.heap.size (subL c row), isV (.bool b), isV (.bool (!b))] := ⟨_, rfl⟩
  have hst : ∀ f ∈ fs, StableP f := by
    rw [hfs]; intro f hf
    simp only [List.mem_cons, List.not_mem_nil, or_false] at hf
    rcases hf with rfl | rfl | rfl | rfl | rfl | rfl <;> first | exact stable_v _ | exact stable_ownI _ _
  subst hfs
  have hS1 : ∀ (w2 w3 : World), Below w.heap.size w.drew w2 → Below w2.heap.size w2 w3 → Below w.heap.size w.drew w3 := fun w2 w3 h k => h.trans (k.mono h.size)
  have hS0 : ∀ w2 : World, Below w.heap.size w.drew w2 → Below w.heap.size w w2 := fun w2 h => (below_drew (Below.refl _ w)).trans h
  refine wp_region_tail (S := fun w2 => Below w.heap.size w.drew w2) [isV (.slice ao no co), isV (.slice ac nc cc), isV (.slice au nu cu), ownI w.heap.size (subL c row), isV (.bool b), isV (.bool (!b))] [(0, .slice au nu cu), (1, .pointer (some ⟨qo, 0, none⟩)), (2, .pointer (some ⟨qc, 0, none⟩))] _ _ 6 (by kernel_rfl) rfl rfl (by kernel_rfl) (by kernel_rfl) rfl (by kernel_rfl) ?base (Below.refl _ _) ?ob rfl ?fin
  case base =>
    intro t v ht
    simp only [List.lookup_cons, List.lookup_nil] at ht
    repeat' split at ht
    all_goals first | (cases ht; done) | (obtain rfl := Option.some.inj ht; rename_i hh; obtain rfl := eq_of_beq hh; rfl)
  case ob =>
    exact ⟨obt_one (.slice ao no co) rfl rfl (srt_b 1 rfl) (fun ρ w2 hS hx => by have hv := below_cell (hS0 _ hS) HQO.out HVO.out; go_simp),
      obt_one (.slice ac nc cc) rfl rfl (srt_b 2 rfl) (fun ρ w2 hS hx => by have hv := below_cell (hS0 _ hS) HQC.out HVC.out; go_simp),
      obt_move (.slice au nu cu) rfl rfl rfl (srt_b 0 rfl),
      obt_call hst [.slice ac nc cc, .slice au nu cu] rfl Tryz.func68 (by kernel_rfl) (by kernel_rfl) rfl ⟨srt_j 1 rfl (by kernel_rfl) rfl, srt_j 2 rfl (by kernel_rfl) rfl, trivial⟩ (fun w2 hS => by
        refine (sumsWithout_any _ _ c row w2 (inRow_below HC.out (hS0 _ hS)) (inRow_below HU.out (hS0 _ hS)) HL.out HM.out.1 HM.out.2 (fun x hx => HR.out.2 x (by rw [HL.out]; exact hx))).mono ?_
        rintro e w3 ⟨u, rfl, ho, hb3⟩
        exact ⟨u, rfl, hS1 _ _ hS hb3, hb3, own_base ho hS.size⟩),
      obt_call_r hst 3 rfl Tryz.func82 (by kernel_rfl) (by kernel_rfl) rfl rfl (by kernel_rfl) (srt_j 0 rfl (by kernel_rfl) rfl) (fun v w2 hS hf => by
        refine (restExists_any _ v o (subL c row) w2 (inRow_below HO.out (hS0 _ hS)) (inRow_own hf)).mono ?_
        rintro e w3 ⟨rfl, hb3⟩
        rw [← HBB.out]
        exact ⟨_, rfl, hS1 _ _ hS hb3, hb3, rfl⟩),
      obt_one (.bool (!b)) rfl rfl (srt_j 4 rfl (by kernel_rfl) rfl) (fun ρ w2 hS hx => by go_simp),
      trivial⟩
  case fin =>
    intro a' w' h1 h2 h3 hS h4 K hK
    have hv : a'.eval (.tmp 10) = .bool (!b) := h4 5 10 rfl (by decide)
    refine tail_assign rfl hv ?_ K hK
    go_wp2
    exact bodyPost_ret (results_tmp rfl _ _ _) rfl ⟨congrArg Ending.returned (set_get (n := 11) h1 (by decide)), hS0 _ hS⟩
def rowsT (B : Nat) (m : List (List Int)) : FactP := fun u w2 => MatT w2 B u m
theorem stable_rowsT (B : Nat) (m : List (List Int)) : StableP (rowsT B m) := fun _ _ _ hb h => matT_below h hb
theorem rowsAt_filter (r c : List Int) (y : Nat) : ((rowsLn c.length (r.getD y 0)).filter fun x => !(!restB (r.eraseIdx y) (subL c x))) = rowsAtL r c y := by
  unfold rowsAtL
  congr 1
  funext x; rw [Bool.not_not]
set_option maxRecDepth 100000 in
set_option maxHeartbeats 2000000 in
theorem rowsAt_any (vr vc : Value) (r c : List Int) (y : Nat) (w : World) (hr : InRow w vr r) (hc : InRow w vc c) (hy : y < r.length) (hr5 : r.length ≤ 5) (hC1 : 1 ≤ c.length) (hM : Mid1000 c) :
    Calls Tryz.prog 70 #[vr, vc, .int .i64 y] w (RowsRes w.heap.size (rowsAtL r c y) w) := by
  have HR := hide hr; have HC := hide hc; have HM := hide hM
  have hbox := (Below.refl w.heap.size w).alloc (Nat.le_refl _) (.cells #[vc] 23)
  have HBX := hide hbox
  have HCX := hide (show (w.alloc (.cells #[vc] 23)).cell? ⟨w.heap.size, 0, none⟩ = some vc by simp [World.cell?_alloc_new])
  have HSZ := hide (show (w.alloc (.cells #[vc] 23)).heap.size = w.heap.size + 1 by simp)
  have HCL := hide (clone_any vr r _ (inRow_below hr hbox) (by omega))
  obtain ⟨xr, cr, rfl, hmr, hpr⟩ := hr
  obtain ⟨gr, or', rfl, hgr, hcr⟩ := hpr.resolve_left (by omega)
  have HRY := hide (hcr y hy); have HGR := hide hgr
  obtain ⟨xc, cc, rfl, hmc, -⟩ := hc
  unfold maxLen at hmr hmc
  have HDEL := hide fun (v : Value) (w' : World) (h : w'.ownsRow (w.heap.size + 1) 3 1 v r.length (ints r)) => (delete_any (w.heap.size + 1) v r y w' h hy : Calls Tryz.prog 78 #[v, .int .i64 y, .int .i64 ((y : Int) + 1)] w' _)
  obtain ⟨R, hRR⟩ : ∃ R, R = r.length := ⟨_, rfl⟩
  obtain ⟨C, hCC⟩ : ∃ C, C = c.length := ⟨_, rfl⟩
  have HRR := hide hRR; have HCC := hide hCC
  rw [← hRR] at hmr HR HCL HDEL hy ⊢
  rw [← hCC] at HCL
  rw [← hCC] at hmc HC HCX HBX HSZ hC1 ⊢
  clear hbox hpr hcr hgr hRR hCC hM
  go_enter Tryz.func70, Tryz.ntmps70
  go_wp2_with fail
  generalize hW : w.alloc (.cells #[Value.slice xc C cc] 23) = W1 at HSZ HBX HCX HCL ⊢
  clear hW
  refine HCL.out.mono ?_
  rintro e w2 ⟨v2, rfl, ho, hb⟩
  rw [HSZ.out] at ho
  have HO2 := hide ho; have HB2 := hide hb
  clear ho hb
  go_wp2_with fail
  refine (HDEL.out v2 w2 (by rw [HRR.out]; exact HO2.out)).mono ?_
  rintro e w3 ⟨vo, rfl, ho, hb⟩
  obtain ⟨ao, co, rfl⟩ := own_slice ho
  have HO3 := hide ho; have HB3 := hide hb
  clear ho hb HDEL HO2
  go_wp2
  have hs3 := HB3.out.size; have hs2 := HB2.out.size; have hs1 := HSZ.out
  have HB4 : Hid (Below (w.heap.size + 1) W1 (w3.alloc (Obj.cells #[Value.slice ao (r.eraseIdx y).length co] 23))) := hide (by
    have h2 := HB2.out
    rw [hs1] at h2
    exact (h2.trans HB3.out).alloc (by omega) _)
  have HVO := hide (show (w3.alloc (Obj.cells #[Value.slice ao (r.eraseIdx y).length co] 23)).cell? ⟨w3.heap.size, 0, none⟩ = some (Value.slice ao (r.eraseIdx y).length co) by simp [World.cell?_alloc_new])
  have HO4 := hide (inRow_own (own_below HO3.out ((Below.refl _ _).alloc (Nat.le_refl _) (Obj.cells #[Value.slice ao (r.eraseIdx y).length co] 23))))
  have HS4 := hide (show (w3.alloc (Obj.cells #[Value.slice ao (r.eraseIdx y).length co] 23)).heap.size = w3.heap.size + 1 by simp)
  have HVC : Hid ((w3.alloc (Obj.cells #[Value.slice ao (r.eraseIdx y).length co] 23)).cell? ⟨w.heap.size, 0, none⟩ = some (.slice xc C cc)) := hide (by
    rw [HB4.out.cell (p := ⟨w.heap.size, 0, none⟩) (Nat.lt_succ_self _)]; exact HCX.out)
  have HBA : Hid (Below w.heap.size w (w3.alloc (Obj.cells #[Value.slice ao (r.eraseIdx y).length co] 23))) := hide (HBX.out.trans (HB4.out.mono (Nat.le_succ _)))
  generalize w3.alloc (Obj.cells #[Value.slice ao (r.eraseIdx y).length co] 23) = W4 at HB4 HVO HO4 HS4 HVC HBA ⊢
  obtain ⟨qo, hqo⟩ : ∃ qo, qo = w3.heap.size := ⟨_, rfl⟩
  obtain ⟨qc, hqc⟩ : ∃ qc, qc = w.heap.size := ⟨_, rfl⟩
  rw [← hqo] at HVO HS4 ⊢
  have HQC : Hid (qc = w.heap.size) := hide hqc
  have HQ1 := hide (show qo < W4.heap.size by rw [HS4.out]; omega)
  have HQ2 := hide (show qc < W4.heap.size by rw [HS4.out]; omega)
  rw [← hqc] at HVC
  have HRV := below_cell HBA.out HGR.out HRY.out
  have HGR4 := hide (Nat.lt_of_lt_of_le HGR.out HBA.out.size)
  obtain ⟨a, ha⟩ : ∃ a, a = r[y] := ⟨_, rfl⟩
  have HA : Hid (a = r.getD y 0) := hide (by rw [ha, List.getD_eq_getElem?_getD, List.getElem?_eq_getElem (by rw [← HRR.out]; exact hy)]; rfl)
  rw [← ha] at HRV
  have HRV := hide HRV
  have HC4 := hide (inRow_below HC.out HBA.out)
  have HC5 : Hid (1 ≤ C ∧ C ≤ 5) := hide ⟨hC1, by rw [HCC.out]; exact HM.out.1⟩
  have HFIL := hide (rowsAt_filter r c y)
  rw [← HA.out, ← HCC.out] at HFIL
  clear HCL HB2 HB3 HO3 hs3 hs2 hs1 HB4 HSZ HBX HCX ha HRY hqo HGR
  obtain ⟨L, hL⟩ : ∃ L, L = (r.eraseIdx y).length := ⟨_, rfl⟩
  have HLL := hide hL
  rw [← hL] at HVO HO4 ⊢
  clear hL
  rw [← hqc]
  clear hqc
  have hyI : (y : Int) < R := by omega
  obtain ⟨fs, hfs⟩ : ∃ fs : List FactP, fs = [isV (.slice (some ⟨gr, or', none⟩) R cr), isV (.int .i64 y), isV (.pointer (some ⟨gr, or' + y, none⟩)), isV (.int .i64 a), isV (.slice xc C cc), isV (.int .i64 C), rowsT W4.heap.size (rowsLn C a), isV (.func (.func 81) #[] #[.pointer (some ⟨qo, 0, none⟩), .pointer (some ⟨qc, 0, none⟩)]), rowsT W4.heap.size (rowsAtL r c y)] := ⟨_, rfl⟩
  have hst : ∀ f ∈ fs, StableP f := by
    rw [hfs]; intro f hf
    simp only [List.mem_cons, List.not_mem_nil, or_false] at hf
    rcases hf with rfl | rfl | rfl | rfl | rfl | rfl | rfl | rfl | rfl <;> first | exact stable_v _ | exact stable_rowsT _ _
  subst hfs
  have hS1 : ∀ (w2 w3 : World), Below W4.heap.size W4.drew w2 → Below w2.heap.size w2 w3 → Below W4.heap.size W4.drew w3 := fun w2 w3 h k => h.trans (k.mono h.size)
  have hS0 : ∀ w2 : World, Below W4.heap.size W4.drew w2 → Below W4.heap.size W4 w2 := fun w2 h => (below_drew (Below.refl _ W4)).trans h
  refine wp_region_need (S := fun w2 => Below W4.heap.size W4.drew w2) [isV (.slice (some ⟨gr, or', none⟩) R cr), isV (.int .i64 y), isV (.pointer (some ⟨gr, or' + y, none⟩)), isV (.int .i64 a), isV (.slice xc C cc), isV (.int .i64 C), rowsT W4.heap.size (rowsLn C a), isV (.func (.func 81) #[] #[.pointer (some ⟨qo, 0, none⟩), .pointer (some ⟨qc, 0, none⟩)]), rowsT W4.heap.size (rowsAtL r c y)] [(0, .slice (some ⟨gr, or', none⟩) R cr), (2, .int .i64 y), (4, .pointer (some ⟨qc, 0, none⟩)), (7, .pointer (some ⟨qo, 0, none⟩))] _ _ 9 (by kernel_rfl) rfl rfl (by kernel_rfl) (by kernel_rfl) rfl (by kernel_rfl) ?base (Below.refl _ _) ?ob rfl ?fin
  case base =>
    intro t v ht
    simp only [List.lookup_cons, List.lookup_nil] at ht
    repeat' split at ht
    all_goals first | (cases ht; done) | (obtain rfl := Option.some.inj ht; rename_i hh; obtain rfl := eq_of_beq hh; rfl)
  case ob =>
    exact ⟨obn_of (by kernel_rfl) (obt_move (.slice (some ⟨gr, or', none⟩) R cr) rfl rfl rfl (srt_b 0 rfl)),
      obn_of (by kernel_rfl) (obt_move (.int .i64 y) rfl rfl rfl (srt_b 2 rfl)),
      obn_of (by kernel_rfl) (obt_two (.pointer (some ⟨gr, or' + y, none⟩)) rfl rfl (srt_j 0 rfl (by kernel_rfl) rfl) (srt_j 1 rfl (by kernel_rfl) rfl) (fun ρ w2 hS hx hy' => by have h1 := hyI; go_simp)),
      obn_of (by kernel_rfl) (obt_one (.int .i64 a) rfl rfl (srt_j 2 rfl (by kernel_rfl) rfl) (fun ρ w2 hS hx => by have hv := below_cell (hS0 _ hS) HGR4.out HRV.out; go_simp)),
      obn_of (by kernel_rfl) (obt_one (.slice xc C cc) rfl rfl (srt_b 4 rfl) (fun ρ w2 hS hx => by have hv := below_cell (hS0 _ hS) HQ2.out HVC.out; go_simp)),
      obn_of (by kernel_rfl) (obt_one (.int .i64 C) rfl rfl (srt_j 4 rfl (by kernel_rfl) rfl) (fun ρ w2 hS hx => by go_simp)),
      obn_of (by kernel_rfl) (obt_call hst [.int .i64 a, .int .i64 C] rfl Tryz.func80 (by kernel_rfl) (by kernel_rfl) rfl ⟨srt_j 3 rfl (by kernel_rfl) rfl, srt_j 5 rfl (by kernel_rfl) rfl, trivial⟩ (fun w2 hS => by
        refine (rowsWith_any a C w2 HC5.out).mono ?_
        rintro e w3 ⟨u, rfl, ho, hb3⟩
        rw [bitRows_rowsL C HC5.out] at ho
        exact ⟨u, rfl, hS1 _ _ hS hb3, hb3, matT_base (matT_own ho) hS.size⟩)),
      obn_of (by kernel_rfl) (obt_two (.func (.func 81) #[] #[.pointer (some ⟨qo, 0, none⟩), .pointer (some ⟨qc, 0, none⟩)]) rfl rfl (srt_b 7 rfl) (srt_b 4 rfl) (fun ρ w2 hS hx hy' => by go_simp)),
      fun ac w2 hS hB hD K hK => ⟨.inl rfl, run_call rfl Tryz.func79 (by kernel_rfl) (by kernel_rfl) #[ac.tmps.getD 20 undef, .func (.func 81) #[] #[.pointer (some ⟨qo, 0, none⟩), .pointer (some ⟨qc, 0, none⟩)]] (by
          have h21 : ac.tmps.getD 21 undef = .func (.func 81) #[] #[.pointer (some ⟨qo, 0, none⟩), .pointer (some ⟨qc, 0, none⟩)] := hD 7 21 rfl (by kernel_rfl)
          simp only [List.map_toArray, List.map_cons, List.map_nil]
          rw [show ac.eval (.tmp 21) = ac.tmps.getD 21 undef from rfl, h21]; rfl) (by
          have h20 : rowsT W4.heap.size (rowsLn C a) (ac.tmps.getD 20 undef) w2 := hD 6 20 rfl (by kernel_rfl)
          refine (delRows_any _ (rowsLn C a) 81 #[.pointer (some ⟨qo, 0, none⟩), .pointer (some ⟨qc, 0, none⟩)] (RowOf C a) (fun x => !restB (r.eraseIdx y) (subL c x)) W4.heap.size W4 w2 (enters_of Tryz.func81 (by kernel_rfl) rfl) h20 hS.size (Nat.le_refl _) (hS0 _ hS) (fun x hx => (mem_rowsL _ _ _).1 hx) (fun x u w5 hx hw hu => ?_)).mono ?_
          · exact rowsPred_any _ _ u (r.eraseIdx y) c x qo qc w5 (Nat.lt_of_lt_of_le HQ1.out hw.size) (Nat.lt_of_lt_of_le HQ2.out hw.size) (below_cell hw HQ1.out HVO.out) (below_cell hw HQ2.out HVC.out) (inRow_below HO4.out hw) (inRow_below HC4.out hw) hu (by rw [hx.1, HCC.out]) HM.out (mid_rowOf hx HC5.out.2)
          · rintro e w3 ⟨u, rfl, ho, hb3⟩
            rw [HFIL.out] at ho
            exact ⟨u, rfl, hK _ _ (hS.trans hb3) (fun j hj => absurd (needL_of hj) (by rw [show needL _ 8 = [] by kernel_rfl]; simp)) ho⟩)⟩,
      trivial⟩
  case fin =>
    intro a' w' h1 h2 h3 hS h4 K hK
    have hmat : rowsT W4.heap.size (rowsAtL r c y) (a'.tmps.getD 22 undef) w' := h4 8 22 rfl (by decide) (by kernel_rfl)
    obtain ⟨v22, hv22⟩ : ∃ v22, a'.tmps.getD 22 undef = v22 := ⟨_, rfl⟩
    rw [hv22] at hmat
    refine tail_assign rfl (show a'.eval (.tmp 22) = v22 from hv22) ?_ K hK
    have HMT := hide (matT_base hmat HBA.out.size)
    have HBE := hide (HBA.out.trans ((hS0 _ hS).mono HBA.out.size))
    clear hst h3 h4 hK hS1 hv22 hmat
    go_wp2
    exact bodyPost_ret (results_tmp rfl _ _ _) rfl ⟨v22, congrArg Ending.returned (set_get (d := 6) (n := 23) h1 (by decide)), HMT.out, HBE.out⟩
end Go.Proofs.YtjnnoabaepmcnaaGreat
/-
  l05Left and l02Copy of the model.
-/
namespace Go.Proofs.YtjnnoabaepmcnaaGreat
open Go.RowKit

/-- No column is asked for more than it has. -/
def leftOk (c row : List Int) : Bool := (List.range c.length).all fun x => decide (row.getD x 0 ≤ c.getD x 0)
theorem leftOk_yes {c row : List Int} (h : ∀ x, x < c.length → row.getD x 0 ≤ c.getD x 0) : leftOk c row = true := by
  unfold leftOk
  rw [List.all_eq_true]
  intro x hx
  simpa using h x (by simpa using hx)
theorem leftOk_no {c row : List Int} {x : Nat} (hx : x < c.length) (h : c.getD x 0 < row.getD x 0) : leftOk c row = false := by
  unfold leftOk
  rw [List.all_eq_false]
  exact ⟨x, by simpa using hx, by rw [decide_eq_true_eq]; omega⟩
theorem leftOk_iff {c row : List Int} : leftOk c row = true ↔ ∀ x, x < c.length → row.getD x 0 ≤ c.getD x 0 := by
  unfold leftOk
  rw [List.all_eq_true]
  constructor
  · intro h x hx; simpa using h x (by simpa using hx)
  · intro h x hx; simpa using h x (by simpa using hx)
/-- What l05Left answers. -/
def LeftRes (c row : List Int) (w : World) (e : Ending) (w' : World) : Prop :=
  ∃ v, e = .returned (.tuple #[v, .bool (leftOk c row)]) ∧ w'.ownsRow w.heap.size 3 1 v (if leftOk c row then subL c row else []).length (ints (if leftOk c row then subL c row else [])) ∧ Below w.heap.size w w'
theorem leftRes_yes {c row : List Int} {w w' : World} {v : Value} (h : leftOk c row = true) (ho : w'.ownsRow w.heap.size 3 1 v c.length (ints (subL c row))) (hb : Below w.heap.size w w') : LeftRes c row w (.returned (.tuple #[v, .bool true])) w' := by
  refine ⟨v, by rw [h], ?_, hb⟩
  rw [if_pos h, subL_len]; exact ho
theorem leftRes_no {c row : List Int} {w w' : World} (h : leftOk c row = false) (hb : Below w.heap.size w w') : LeftRes c row w (.returned (.tuple #[.slice none 0 0, .bool false])) w' := by
  refine ⟨_, by rw [h], ?_, hb⟩
  rw [h]; exact World.ownsRow_nil _ _ _ _
theorem subL_take {c row : List Int} {k : Nat} (h : k < c.length) : (subL c row).take (k + 1) = (subL c row).take k ++ [c.getD k 0 - row.getD k 0] := by
  rw [List.take_succ_eq_append_getElem (by rw [subL_len]; exact h)]
  congr 2
  exact tabL_at _

set_option maxRecDepth 100000 in
set_option maxHeartbeats 1000000 in
theorem l05Left_any (va vb : Value) (c row : List Int) (w : World) (ha : InRow w va c) (hb : InRow w vb row) (hl : row.length = c.length) (hM : Mid1000 c) (hR : Mid1000 row) :
    Calls Tryz.prog 57 #[va, vb] w (LeftRes c row w) := by
  obtain ⟨xa, ca, rfl, hma, hpa⟩ := ha
  obtain ⟨xb, cb, rfl, hmb, hpb⟩ := hb
  unfold maxLen at hma hmb
  have HPA := hide fun h : 0 < c.length => hpa.resolve_left (by omega)
  have HPB := hide fun h : 0 < row.length => hpb.resolve_left (by omega)
  have HM := hide hM; have HR := hide hR; have HLR := hide hl
  have HGA : Hid (∀ x, (h : x < c.length) → c.getD x 0 = c[x]) := hide fun x h => by rw [List.getD_eq_getElem?_getD, List.getElem?_eq_getElem h]; rfl
  have HGB : Hid (∀ x, (h : x < row.length) → row.getD x 0 = row[x]) := hide fun x h => by rw [List.getD_eq_getElem?_getD, List.getElem?_eq_getElem h]; rfl
  have HTK := hide fun (k : Nat) (h : k < c.length) => subL_take (c := c) (row := row) h
  have HAL : Hid ((subL c row).take c.length = subL c row) := hide (by rw [List.take_of_length_le (by rw [subL_len]; exact Nat.le_refl _)])
  rw [hl] at hmb ⊢
  obtain ⟨C, hCC⟩ : ∃ C, C = c.length := ⟨_, rfl⟩
  have HCC := hide hCC
  rw [← hCC] at hma hmb HTK HAL ⊢
  have hC5 : C ≤ 5 := by rw [hCC]; exact hM.1
  clear hpa hpb hM hR hl hCC
  go_enter Tryz.func57, Tryz.ntmps57
  go_wp2
  go_loopw [6, 12] (fun o i w' => ∃ (k : Nat) (v : Value), k ≤ C ∧ i = .int .i64 k ∧ v = o ∧ w'.ownsRow w.heap.size 3 1 v k (ints ((subL c row).take k)) ∧ (∀ x, x < k → row.getD x 0 ≤ c.getD x 0) ∧ Below w.heap.size w w') (fun _ i _ => C - (intOf i).toNat)
  case atStart => exact ⟨0, _, Nat.zero_le _, rfl, rfl, World.ownsRow_made (base := w.heap.size) w #[] 0 (Nat.le_refl _) (Nat.zero_le _) rfl, fun x h => absurd h (Nat.not_lt_zero _), (Below.refl _ _).alloc (Nat.le_refl _) _⟩
  case round =>
    obtain ⟨k, v, hk, rfl, rfl, hown, hall, hb⟩ := hrel
    have HO := hide hown; have HA := hide hall; have HB := hide hb
    clear hown hall hb
    by_cases hlt : k < C
    · have hkI : (k : Int) < C := by omega
      have hkc : k < c.length := by rw [← HCC.out]; exact hlt
      have hkr : k < row.length := by rw [HLR.out, ← HCC.out]; exact hlt
      obtain ⟨ga, oa, rfl, hga, hca⟩ := HPA.out (by omega)
      obtain ⟨gb, ob, rfl, hgb, hcb⟩ := HPB.out (by omega)
      have hx1 := below_cell HB.out hga (hca k hkc)
      have hx2 := below_cell HB.out hgb (hcb k hkr)
      rw [← HGA.out k hkc] at hx1
      rw [← HGB.out k hkr] at hx2
      have HTKK := hide (HTK.out k hlt)
      have hm1 := HM.out.2 k hkc
      have hm2 := HR.out.2 k hkr
      have HNO := hide fun h => leftOk_no (row := row) hkc h
      have HYE : Hid (row.getD k 0 ≤ c.getD k 0 → ∀ x, x < k + 1 → row.getD x 0 ≤ c.getD x 0) := hide fun h x hx => by
        by_cases e : x = k
        · subst e; exact h
        · exact HA.out x (by omega)
      have hsz := HB.out.size
      obtain ⟨x1, hx1'⟩ : ∃ x1, x1 = c.getD k 0 := ⟨_, rfl⟩
      obtain ⟨x2, hx2'⟩ : ∃ x2, x2 = row.getD k 0 := ⟨_, rfl⟩
      rw [← hx1'] at hx1 hm1 HTKK HNO HYE
      rw [← hx2'] at hx2 hm2 HTKK HNO HYE
      obtain ⟨m11, m12⟩ := hm1
      obtain ⟨m21, m22⟩ := hm2
      clear hca hcb hkc hkr hx1' hx2'
      by_cases hle : x1 < x2
      · have HF := hide (HNO.out hle)
        go_wp2
        go_ret2
        exact leftRes_no HF.out HB.out
      · have HY := hide (HYE.out (by omega))
        go_wp2_with (at_builtin; refine wpList_push HO.out (.int .i64 (x1 - x2)) (.int .i64 0) rfl _ _ rfl Tryz.underlying23 Tryz.infoInt rfl (by decide) rfl rfl rfl (by omega) hsz ?_; intro v' w6 hown1 hb1 hg1)
        go_roundw
        case rel => exact ⟨k + 1, _, by omega, by go_num, rfl, by rw [HTKK.out]; simpa [ints] using hown1, HY.out, HB.out.trans hb1⟩
        case measure => simp [intOf]; omega
    · obtain rfl : k = C := by omega
      have HF := hide (leftOk_yes (c := c) (row := row) (by rw [← HCC.out]; exact HA.out))
      rw [HAL.out] at HO
      go_wp2
      go_ret2
      exact leftRes_yes HF.out (by rw [← HCC.out]; exact HO.out) HB.out

/-- A copy of rows that some call has made. -/
theorem take_snoc {α : Type} (m : List α) (k : Nat) (h : k < m.length) : m.take (k + 1) = m.take k ++ [m[k]] := List.take_succ_eq_append_getElem h
set_option maxRecDepth 100000 in
set_option maxHeartbeats 1000000 in
theorem copyRows_any (v : Value) (m : List (List Int)) (lo : Nat) (w : World) (hin : MatT w lo v m) (hm5 : m.length ≤ 10) (hrows : ∀ r ∈ m, r.length ≤ 10) :
    Calls Tryz.prog 55 #[v] w (MatRes m w) := by
  have HM := hide hin
  obtain ⟨a, n, c, hv'⟩ : ∃ a n c, v = .slice a n c := by obtain ⟨a, c, rfl, -⟩ := inMat_matT hin; exact ⟨a, _, c, rfl⟩
  have hnl : n = m.length := by
    obtain ⟨a, c, he, -⟩ := inMat_matT hin
    rw [hv'] at he; cases he; rfl
  subst hv'
  have HNL := hide hnl
  have HROWS := hide hrows
  have hn10 : n ≤ 10 := by omega
  have HTK := hide fun (k : Nat) (h : k < m.length) => take_snoc m k h
  clear hin hnl hm5 hrows
  go_enter Tryz.func55, Tryz.ntmps55
  go_wp2
  go_loopw [3, 9] (fun u i w' => ∃ (k : Nat) (v : Value), k ≤ n ∧ i = .int .i64 k ∧ v = u ∧ OwnMat w' w.heap.size w'.heap.size v (m.take k) ∧ Below w.heap.size w w') (fun _ i _ => n - (intOf i).toNat)
  case atStart => exact ⟨0, _, by omega, rfl, rfl, ⟨[], World.ownsRow_made (base := w.heap.size) w #[] 0 (Nat.le_refl _) (Nat.zero_le _) rfl, (fun k e => by simp [Value.ownBlock] at e; subst e; simp), (fun i h => absurd h (Nat.not_lt_zero _)), fun i j _ h => absurd h (Nat.not_lt_zero _)⟩, (Below.refl _ _).alloc (Nat.le_refl _) _⟩
  case round =>
    obtain ⟨k, v, hk, rfl, rfl, hown, hb⟩ := hrel
    have HO := hide hown; have HB := hide hb
    clear hown hb
    by_cases hlt : k < n
    · have hkI : (k : Int) < n := by omega
      have hkm : k < m.length := by rw [← HNL.out]; exact hlt
      have hsz := HB.out.size
      obtain ⟨vs, hv, hr⟩ := matT_below HM.out HB.out
      rw [← HNL.out] at hv
      obtain ⟨g, cap, he, -, -, -, -, -, -⟩ := own_some hv (by omega)
      cases he
      have hx := cell_held hv hlt
      have hrow := hr k hkm
      have HRL := hide (HROWS.out _ (List.getElem_mem hkm))
      have HTKK := hide (HTK.out k hkm)
      obtain ⟨row, hrw⟩ : ∃ row, row = m[k] := ⟨_, rfl⟩
      obtain ⟨uj, huj⟩ : ∃ uj, uj = vs.getD k undef := ⟨_, rfl⟩
      rw [← hrw] at HTKK HRL hrow
      rw [← huj] at hx hrow
      obtain ⟨xr, cr, he⟩ := own_slice hrow
      have HROW := hide hrow
      obtain ⟨M, hM⟩ : ∃ M, M = m.take k := ⟨_, rfl⟩
      have hML : M.length ≤ 10 := by rw [hM, List.length_take]; omega
      rw [← hM] at HO HTKK
      have hRL := HRL.out
      obtain ⟨L, hL⟩ : ∃ L, L = row.length := ⟨_, rfl⟩
      have HLL := hide hL
      rw [← hL] at he hRL
      clear hv hr hrw huj hM hrow hL
      subst he
      have HX : Hid ((wr.alloc (.cells #[] 3)).ownsRow wr.heap.size 3 1 (.slice (some ⟨wr.heap.size, 0, none⟩) 0 0) 0 []) := hide (World.ownsRow_made (base := wr.heap.size) wr #[] 0 (Nat.le_refl _) (Nat.zero_le _) rfl)
      have HAL := hide ((Below.refl wr.heap.size wr).alloc (Nat.le_refl _) (.cells #[] 3))
      have HSA : Hid ((wr.alloc (.cells #[] 3)).heap.size = wr.heap.size + 1) := hide (by simp)
      have HROWA := hide (own_below HROW.out HAL.out)
      have HOA := hide (ownMat_below HO.out HAL.out)
      go_wp2_with (first | (refine wpList_appendOwn 16 rfl HX.out row HROWA.out (.int .i64 0) rfl _ _ rfl Tryz.underlying23 Tryz.infoInt rfl (by decide) rfl rfl (by rw [← HLL.out]; omega) (by rw [HSA.out]; omega) ?_; intro u2 w2 hu2 hb2 hg2; rw [Nat.zero_add, List.nil_append, ← HLL.out] at hu2; obtain ⟨ua, uc, rfl⟩ := own_slice hu2; have HU2 := hide hu2; have O2 := hide (ownMat_grown HOA.out hg2 fun q e => by simp [Value.ownBlock] at e; omega); have B2' := hide ((HB.out.trans (HAL.out.mono hsz)).trans (hb2.mono hsz)); have hs2 := hb2.size; rw [HSA.out] at hs2; clear hu2 hb2 hg2; obtain ⟨vs, hv, hvh, hvr, hva⟩ := O2.out; have HV := hide hv; have HVR := hide hvr; have HVA := hide hva; clear hv hvh hvr hva) | (at_builtin; refine wpList_push HV.out (.slice ua L uc) (.slice none 0 0) rfl _ _ rfl Tryz.underlying22 Tryz.infoInts rfl (by decide) rfl rfl rfl (by omega) (by omega) ?_; intro v' w6 hown1 hb1 hg1))
      go_roundw
      case rel =>
        have hs6 := hb1.size
        have hp := ownMat_push (w := w2) (r := row) (hi := wr.heap.size) (hi' := w6.heap.size) HVR.out HVA.out HV.out (by rw [← HLL.out]; exact HU2.out) hsz (by omega) (by omega) hg1 hown1 (fun q e => (hown1.lt q e).2)
        rw [← HTKK.out] at hp
        exact ⟨k + 1, _, by omega, by go_num, rfl, hp, B2'.out.trans (hb1.mono (by omega))⟩
      case measure => simp [intOf]; omega
    · obtain rfl : k = n := by omega
      have HF : Hid (m.take k = m) := hide (by rw [HNL.out, List.take_length])
      rw [HF.out] at HO
      go_wp2
      go_ret
      exact ⟨_, rfl, HO.out, HB.out⟩
end Go.Proofs.YtjnnoabaepmcnaaGreat
