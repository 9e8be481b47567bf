/-
  Texts of this claim, one behind the other: RowsS, ShSl, Subs, ImgBy, ExistS, BuildS.
-/
import Derived.Test.YtjgkblgilnfpfaaPackG
import Derived.Test.YtjgkblgilnfpfaaPackH
import Derived.Shelf.Slices.Clone
import Derived.Ground.Names2Prog
import Derived.Test.YtjgkblgilnfpfaaProg
import Derived.Test.YtjgkblgilnfpfaaPackD
import Derived.Test.YtjgkblgilnfpfaaPackC
import Derived.Test.YtjgkblgilnfpfaaPackE
import Derived.Laws.OwnMore
import Derived.Great.BuildSlice
import Derived.Shelf.Abstract
/-
  l05Rows of the model: all rows of so many cells with so many black ones.
-/
namespace Go.Proofs.Ytjgkblgilnfpfaa
open Go.RowKit

/-- The rows whose first cell is k, .. is less than k. -/
def rowsPart (n : Nat) (s : Int) (k : Nat) : List (List Int) := if (k : Int) ≤ s then (rowsLn n (s - k)).map ((k : Int) :: ·) else []
def rowsParts (n : Nat) (s : Int) : Nat → List (List Int)
  | 0 => []
  | k + 1 => rowsParts n s k ++ rowsPart n s k
theorem rowsParts_two (n : Nat) (s : Int) : rowsParts n s 2 = rowsLn (n + 1) s := by
  simp only [rowsParts, rowsPart, rowsLn, List.nil_append]
  simp
theorem rowsL_len : ∀ (n : Nat) (s : Int), (rowsLn n s).length ≤ 2 ^ n
  | 0, s => by unfold rowsLn; split <;> simp
  | n + 1, s => by
    unfold rowsLn
    have h1 := rowsL_len n s
    have h2 := rowsL_len n (s - 1)
    rw [List.length_append, Nat.pow_succ]
    split <;> split <;> simp <;> omega
theorem rowsL_small (n : Nat) (s : Int) (hn : n ≤ 5) : (rowsLn n s).length ≤ 32 :=
  Nat.le_trans (rowsL_len n s) (Nat.le_trans (Nat.pow_le_pow_right (by decide) hn) (by decide))
theorem rowsParts_len (n : Nat) (s : Int) (hn : n ≤ 5) : ∀ k, (rowsParts n s k).length ≤ 32 * k
  | 0 => Nat.le_refl _
  | k + 1 => by
    rw [rowsParts, List.length_append]
    have h1 := rowsParts_len n s hn k
    have h2 : (rowsPart n s k).length ≤ 32 := by
      unfold rowsPart
      split
      · rw [List.length_map]; exact rowsL_small n _ hn
      · simp
    omega
theorem map_take_succ {α β : Type} (f : α → β) (l : List α) (j : Nat) (h : j < l.length) (P : List β) : P ++ (l.take (j + 1)).map f = (P ++ (l.take j).map f) ++ [f l[j]] := by
  rw [List.take_succ_eq_append_getElem h, List.map_append, List.append_assoc]; rfl

set_option maxHeartbeats 400000 in
theorem specRows_zero (s : Int) (w : World) : Calls Try.prog 88 #[.int .i64 0, .int .i64 s] w (MatRes (rowsLn 0 s) w) := by
  unfold rowsLn
  by_cases h : s = 0
  · subst h
    rw [if_pos rfl]
    go_enter Try.func88, Try.ntmps88
    go_wp2
    go_ret
    have h1 := (Below.refl w.heap.size w).alloc (Nat.le_refl _) (.cells #[] 3)
    have h2 : ((w.alloc (.cells #[] 3)).alloc (.cells #[.slice (some ⟨w.heap.size, 0, none⟩) 0 0] 24)).ownsRow w.heap.size 24 1 (.slice (some ⟨w.heap.size + 1, 0, none⟩) 1 1) 1 [.slice (some ⟨w.heap.size, 0, none⟩) 0 0] := by
      have := World.ownsRow_lit (e := 24) (size := 1) (base := w.heap.size) (w.alloc (.cells #[] 3)) #[.slice (some ⟨w.heap.size, 0, none⟩) 0 0] 1 (by simp) (by decide) rfl
      rwa [World.size_alloc] at this
    refine ⟨_, rfl, ⟨[.slice (some ⟨w.heap.size, 0, none⟩) 0 0], h2, ?_, fun i hi => ?_, fun i j hij hj => ?_⟩, h1.alloc (by simp) _⟩
    · intro k e
      simp [Value.ownBlock] at e
      simp; omega
    · obtain rfl : i = 0 := by simp at hi; exact hi
      refine ⟨own_below (World.ownsRow_made (base := w.heap.size) w #[] 0 (Nat.le_refl _) (Nat.zero_le _) rfl) ((Below.refl _ _).alloc (Nat.le_refl _) _), fun k e => ?_⟩
      simp [Value.ownBlock] at e
      simp; omega
    · simp at hj; omega
  · rw [if_neg h]
    have hs : (s == 0) = false := beq_eq_false_iff_ne.2 h
    go_enter Try.func88, Try.ntmps88
    go_wp2
    go_ret
    exact matRes_nil (Below.refl _ _)
set_option maxRecDepth 100000 in
set_option maxHeartbeats 4000000 in
theorem specRows_succ (n : Nat) (s : Int) (w : World) (hn : n + 1 ≤ 5) (hs : -1000 ≤ s ∧ s ≤ 1000)
    (ih : ∀ (s : Int) (w : World), (-1000 ≤ s ∧ s ≤ 1000) → Calls Try.prog 88 #[.int .i64 n, .int .i64 s] w (MatRes (rowsLn n s) w)) :
    Calls Try.prog 88 #[.int .i64 (n + 1 : Nat), .int .i64 s] w (MatRes (rowsLn (n + 1) s) w) := by
  rw [← rowsParts_two]
  have HIH : Hid (∀ (k : Nat) (w : World), (k : Int) ≤ s → k < 2 → Calls Try.prog 88 #[.int .i64 (((n + 1 : Nat) : Int) - 1), .int .i64 (s - k)] w (MatRes (rowsLn n (s - k)) w)) := hide fun k w h1 h2 => by
    rw [show (((n + 1 : Nat) : Int) - 1) = (n : Int) by omega]
    exact ih (s - k) w (by omega)
  have HPL := hide fun k => rowsParts_len n s (by omega) k
  have HSM := hide fun s => rowsL_small n s (by omega)
  have HP : Hid (∀ k : Nat, (k : Int) ≤ s → rowsParts n s k ++ (rowsLn n (s - k)).map ((k : Int) :: ·) = rowsParts n s (k + 1)) := hide fun k h => by rw [rowsParts, rowsPart, if_pos h]
  have HQ : Hid (∀ k : Nat, ¬ (k : Int) ≤ s → rowsParts n s (k + 1) = rowsParts n s k) := hide fun k h => by rw [rowsParts, rowsPart, if_neg h, List.append_nil]
  have HRL : Hid (∀ (s : Int) (r : List Int), r ∈ rowsLn n s → r.length = n) := hide fun s r h => ((mem_rowsL _ _ _).1 h).1
  obtain ⟨N, hN⟩ : ∃ N, N = n + 1 := ⟨_, rfl⟩
  have hN1 : 1 ≤ N := by omega
  have hN5 : N ≤ 5 := by omega
  have hN0 : ((N : Int) == 0) = false := beq_eq_false_iff_ne.2 (by omega)
  rw [← hN] at HIH ⊢
  obtain ⟨hs1, hs2⟩ := hs
  have HNN : Hid (n ≤ 5) := hide (by omega)
  clear ih hN hn
  go_enter Try.func88, Try.ntmps88
  go_wp2
  go_loopw [5, 6] (fun o x w' => ∃ (k : Nat) (v : Value), k ≤ 2 ∧ x = .int .i64 k ∧ v = o ∧ OwnMat w' w.heap.size w'.heap.size v (rowsParts n s k) ∧ Below w.heap.size w w') (fun _ x _ => 2 - (intOf x).toNat)
  case atStart => exact ⟨0, _, Nat.zero_le _, rfl, rfl, ⟨[], World.ownsRow_made (base := w.heap.size) w #[] 0 (Nat.le_refl _) (Nat.zero_le _) rfl, (fun k e => by simp [Value.ownBlock] at e; subst e; simp), (fun i h => absurd h (Nat.not_lt_zero _)), fun i j _ h => absurd h (Nat.not_lt_zero _)⟩, (Below.refl _ _).alloc (Nat.le_refl _) _⟩
  case round =>
    obtain ⟨k, v, hk, rfl, rfl, hown, hb⟩ := hrel
    have HO := hide hown; have HB := hide hb
    clear hown hb
    by_cases hlt : k < 2
    · have hltI : (k : Int) < 2 := by omega
      by_cases hge : (k : Int) ≤ s
      · have hsz := HB.out.size
        have HREC := hide (HIH.out k wr hge hlt)
        have HPK := hide (HP.out k hge)
        have HLL := hide (HSM.out (s - k))
        have HRLK := hide (HRL.out (s - k))
        have HPL2 := hide (HPL.out k)
        obtain ⟨L, hL⟩ : ∃ L, L = rowsLn n (s - k) := ⟨_, rfl⟩
        rw [← hL] at HREC HPK HLL HRLK
        obtain ⟨B1, hB1⟩ : ∃ B1, B1 = wr.heap.size := ⟨_, rfl⟩
        have HB1 := hide hB1
        clear hL
        go_wp2_with fail
        refine HREC.out.mono ?_
        rintro e w4 ⟨u, rfl, hu, hb4⟩
        rw [← hB1] at hu hsz
        obtain ⟨xu, cu, rfl⟩ : ∃ a c, u = .slice a L.length c := by obtain ⟨a, c, rfl, -⟩ := inMat_own hu; exact ⟨a, c, rfl⟩
        have HU := hide hu
        have HO4 := hide (ownMat_mono (ownMat_below HO.out hb4) (Nat.le_refl _) hb4.size)
        have HB4 := hide (HB.out.trans (hb4.mono (by omega)))
        have HV4 : Hid (∀ q, v.ownBlock = some q → q < B1 ∨ w4.heap.size ≤ q) := hide fun q hq => by
          obtain ⟨vs, -, hh, -⟩ := HO.out
          have := hh q hq; omega
        have hs4 := hb4.size
        rw [← hB1] at hs4
        obtain ⟨B2, hB2⟩ : ∃ B2, B2 = w4.heap.size := ⟨_, rfl⟩
        rw [← hB2] at HU HV4 hs4
        have HOL : Hid (OwnMat w4 w.heap.size w4.heap.size v (rowsParts n s k ++ (L.take 0).map ((k : Int) :: ·))) := hide (by simpa using HO4.out)
        obtain ⟨LL, hLL⟩ : ∃ LL, LL = L.length := ⟨_, rfl⟩
        have HLE := hide hLL
        rw [← hLL] at HU HLL ⊢
        have HS4 := hide hs4
        have HB2 := hide (Nat.le_of_eq hB2)
        clear hu hb4 hB1 hB2 hLL HO HO4 HREC HB hs4
        go_wp2
        go_loopw [5, 30] (fun o i w' => ∃ (j : Nat) (v : Value), j ≤ LL ∧ i = .int .i64 j ∧ v = o ∧ OwnMat w' w.heap.size w'.heap.size v (rowsParts n s k ++ (L.take j).map ((k : Int) :: ·)) ∧ OwnMat w' B1 B2 (.slice xu LL cu) L ∧ (∀ q, v.ownBlock = some q → q < B1 ∨ B2 ≤ q) ∧ B2 ≤ w'.heap.size ∧ Below w.heap.size w w') (fun _ i _ => LL - (intOf i).toNat)
        case atStart => exact ⟨0, _, Nat.zero_le _, rfl, rfl, HOL.out, HU.out, HV4.out, HB2.out, HB4.out⟩
        case round =>
          clear HOL HU HV4 HB4 HB2
          obtain ⟨j, v, hj, rfl, rfl, hown, hol, hvq, hb2, hb⟩ := hrel
          have HO := hide hown; have HOL := hide hol; have HVQ := hide hvq; have HB2 := hide hb2; have HB := hide hb
          clear hown hvq hb2 hb
          by_cases hltj : j < LL
          · have hjl : j < L.length := by rw [← HLE.out]; exact hltj
            have hltI2 : (j : Int) < LL := by omega
            have hLL32 : LL ≤ 32 := HLL.out
            have HSTEP := hide (map_take_succ (fun x => (k : Int) :: x) L j hjl (rowsParts n s k))
            have HRN := hide (HRLK.out L[j] (List.getElem_mem hjl))
            obtain ⟨M, hM⟩ : ∃ M, M = rowsParts n s k ++ (L.take j).map ((k : Int) :: ·) := ⟨_, rfl⟩
            have HML : Hid (M.length ≤ 1000) := hide (by
              rw [hM, List.length_append, List.length_map, List.length_take]
              have := HPL2.out; have := HLL.out; omega)
            rw [← hM] at HO HSTEP
            obtain ⟨vs, hv, -, hr, -⟩ := hol
            rw [← HLE.out] at hv
            obtain ⟨gu, cu', he, -, -, -, -, -, -⟩ := own_some hv (by omega)
            cases he
            have hx := cell_held hv hltj
            have hrow := hr j hjl
            obtain ⟨row, hrw⟩ : ∃ row, row = L[j] := ⟨_, rfl⟩
            obtain ⟨uj, huj⟩ : ∃ uj, uj = vs.getD j undef := ⟨_, rfl⟩
            rw [← hrw] at HSTEP HRN hrow
            rw [← huj] at hx hrow
            obtain ⟨xr, cr, he⟩ := own_slice hrow.1
            rw [HRN.out] at he
            have HROW := hide hrow.1
            have hML := HML.out; have hNN := HNN.out
            have hsz := HB.out.size
            have hbb := HB2.out
            clear hv hr hrw huj hM hrow
            subst he
            have HX : Hid ((wr.alloc (.cells #[.int .i64 k] 3)).ownsRow wr.heap.size 3 1 (.slice (some ⟨wr.heap.size, 0, none⟩) 1 1) 1 [.int .i64 k]) := hide (World.ownsRow_lit (e := 3) (size := 1) (base := wr.heap.size) wr #[.int .i64 k] 1 (Nat.le_refl _) (by decide) rfl)
            have HAL := hide ((Below.refl wr.heap.size wr).alloc (Nat.le_refl _) (.cells #[.int .i64 k] 3))
            have HSA : Hid ((wr.alloc (.cells #[.int .i64 k] 3)).heap.size = wr.heap.size + 1) := hide (by simp)
            have HROWA := hide (own_below HROW.out HAL.out)
            have HOA := hide (ownMat_below HO.out HAL.out); have HLA := hide (ownMat_below HOL.out HAL.out)
            go_wp2_with (first | (refine wpList_appendOwn 38 rfl HX.out row HROWA.out (.int .i64 0) rfl _ _ rfl Try.underlying24 Try.infoInt rfl (by decide) rfl rfl (by rw [HRN.out]; omega) (by rw [HSA.out]; omega) ?_; intro u2 w2 hu2 hb2 hg2; rw [Nat.add_comm 1 row.length] at hu2; obtain ⟨ua, uc, rfl⟩ := own_slice hu2; have HU2 := hide hu2; have O2 := hide (ownMat_grown HOA.out hg2 fun q e => by simp [Value.ownBlock] at e; omega); have L2 := hide (ownMat_grown HLA.out hg2 fun q e => by simp [Value.ownBlock] at e; omega); have B2' := hide ((HB.out.trans (HAL.out.mono hsz)).trans (hb2.mono hsz)); have hs2 := hb2.size; rw [HSA.out] at hs2; clear hu2 hb2 hg2; obtain ⟨vs, hv, hvh, hvr, hva⟩ := O2.out; have HV := hide hv; have HVR := hide hvr; have HVA := hide hva; clear hv hvh hvr hva) | (at_builtin; refine wpList_pushl HV.out (.slice ua (row.length + 1) uc) (.slice none 0 0) rfl _ _ rfl Try.underlying23 Try.infoInts rfl (by decide) rfl rfl rfl (by omega) (by omega) ?_; intro g1 cap1 w6 hown1 hb1 hg1 hat1))
            go_roundw
            case rel =>
              have hs6 := hb1.size
              have hints : ([Value.int .i64 k] ++ ints row) = ints ((k : Int) :: row) := rfl
              have hp := ownMat_push (w := w2) (r := (k : Int) :: row) (hi := wr.heap.size) (hi' := w6.heap.size) HVR.out HVA.out HV.out (by rw [List.length_cons, ← hints]; exact HU2.out) hsz (by omega) (by omega) hg1 hown1 (fun q e => (hown1.lt q e).2)
              rw [← HSTEP.out] at hp
              refine ⟨j + 1, _, by omega, by go_num, rfl, hp, ownMat_grown L2.out hg1 HVQ.out, fun q e => ?_, by omega, B2'.out.trans (hb1.mono (by omega))⟩
              rcases hat1 with h1 | h1
              · simp [Value.ownBlock] at e
                subst e
                exact HVQ.out _ h1
              · simp [Value.ownBlock] at e; omega
            case measure => simp [intOf]; omega
          · obtain rfl : j = LL := by omega
            have HFIN : Hid (rowsParts n s k ++ (L.take j).map ((k : Int) :: ·) = rowsParts n s (k + 1)) := hide (by rw [HLE.out, List.take_length]; exact HPK.out)
            rw [HFIN.out] at HO
            clear hol
            go_wp2
            go_roundw
            case rel => exact ⟨k + 1, _, by omega, by go_num, rfl, HO.out, HB.out⟩
            case measure => simp [intOf]; omega
      · have HQK := hide (HQ.out k (by omega))
        go_wp2
        go_roundw
        case rel => exact ⟨k + 1, _, by omega, by go_num, rfl, by rw [HQK.out]; exact HO.out, HB.out⟩
        case measure => simp [intOf]; omega
    · obtain rfl : k = 2 := by omega
      go_wp2
      go_ret
      exact ⟨_, rfl, HO.out, HB.out⟩
theorem specRows_any : ∀ (n : Nat) (s : Int) (w : World), n ≤ 5 → (-1000 ≤ s ∧ s ≤ 1000) → Calls Try.prog 88 #[.int .i64 n, .int .i64 s] w (MatRes (rowsLn n s) w)
  | 0, s, w, _, _ => specRows_zero s w
  | n + 1, s, w, hn, hs => specRows_succ n s w hn hs fun s w h => specRows_any n s w (by omega) h
end Go.Proofs.Ytjgkblgilnfpfaa
/-
  Contracts of the library, at this translation: laid by the shelf, in plain declarations.
-/
namespace Go.Proofs
open Go.Shelf Go.RowKit Go.Lib
def Try.laysNm215_ren : Go.Shelf.Ren := ⟨fun | 15 => 103 | n => n, fun | 22 => 24 | 3 => 3 | 4 => 4 | n => n, fun | n => n⟩
theorem Try.laysNm215 : Go.Proofs.Lays2.n15 Try.prog Try.laysNm215_ren := {
  mixed := by kernel_rfl
  f15 := Try.func103.trans (congrArg some (by kernel_rfl))
  t3 := Try.underlying3
  a3 := Try.isAgg3
  z3 := Try.sizeOf3
  v3 := Try.zeroValue3
  t4 := Try.underlying4
  a4 := Try.isAgg4
  z4 := Try.sizeOf4
  v4 := Try.zeroValue4
  t22 := Try.underlying24
  a22 := Try.isAgg24
  z22 := Try.sizeOf24
  v22 := Try.zeroValue24
  i3 := by kernel_rfl }
theorem Try.slices_Clone_int (b off n c : Nat) (zs : List Int) (w : World) (hz : n ≤ zs.length) (hbig : n * 8 ≤ 140737488355328) (hc : ∀ j, j < zs.length → w.cell? ⟨b, off + j, none⟩ = some (.int .i64 (zs.getD j 0))) :
    Calls Try.prog 103 #[.slice (some ⟨b, off, none⟩) n c] w fun e w' => ∃ v', e = .returned v' ∧ w'.ownsRow w.heap.size 3 1 v' n ((zs.take n).map (Value.int .i64)) ∧ v' ≠ .slice none 0 0 ∧ Below w.heap.size w w' := Any.slices_Clone_int Try.laysNm215 b off n c zs w hz hbig hc
theorem Try.slices_Clone_int_nil (n c : Nat) (w : World) :
    Calls Try.prog 103 #[.slice none n c] w fun e w' => e = .returned (.slice none 0 0) ∧ w' = w := Any.slices_Clone_int_nil Try.laysNm215 n c w
theorem Try.slices_Clone_int_zero (a : Addr) (c : Nat) (w : World) :
    Calls Try.prog 103 #[.slice (some a) 0 c] w fun e w' => ∃ v', e = .returned v' ∧ w'.ownsRow w.heap.size 3 1 v' 0 [] ∧ v' ≠ .slice none 0 0 ∧ Below w.heap.size w w' := Any.slices_Clone_int_zero Try.laysNm215 a c w
end Go.Proofs
/-
  slices.Clone at integers; sumsWithout of the program; slices with their capacity.
-/
namespace Go.Proofs.Ytjgkblgilnfpfaa
open Go.RowKit

theorem clone_any (v : Value) (r : List Int) (w : World) (hin : InRow w v r) (hn : r.length ≤ 2000000) :
    Calls Try.prog 103 #[v] w (IntsRes r w) := by
  obtain ⟨a, c, rfl, hm, hp⟩ := hin
  by_cases h0 : r.length = 0
  · obtain rfl : r = [] := List.eq_nil_of_length_eq_zero h0
    cases a with
    | none =>
      refine (Try.slices_Clone_int_nil 0 c w).mono ?_
      rintro e w' ⟨rfl, rfl⟩
      exact intsRes_nil (Below.refl _ _)
    | some x =>
      refine (Try.slices_Clone_int_zero x c w).mono ?_
      rintro e w' ⟨v', rfl, ho, -, hb⟩
      exact ⟨v', rfl, ho, hb⟩
  · obtain ⟨g, o, rfl, -, hc⟩ := hp.resolve_left h0
    refine (Try.slices_Clone_int g o r.length c r w (Nat.le_refl _) (by omega) (fun j hj => ?_)).mono ?_
    · rw [hc j hj, List.getD_eq_getElem?_getD, List.getElem?_eq_getElem hj]; rfl
    rintro e w' ⟨v', rfl, ho, -, hb⟩
    rw [List.take_length] at ho
    exact ⟨v', rfl, ho, hb⟩
/-- What has been left behind k cells of the row. -/
def subF (c row : List Int) (k x : Nat) : Int := c.getD x 0 - if x < k then row.getD x 0 else 0
theorem subF_zero (c row : List Int) : tabL c.length (subF c row 0) = c := by
  rw [show tabL c.length (subF c row 0) = tabL c.length (fun x => c.getD x 0) from tabL_congr fun i _ => by rw [subF, if_neg (Nat.not_lt_zero _)]; simp]
  exact tabL_self c
theorem subF_all (c row : List Int) (k : Nat) (h : c.length ≤ k) : tabL c.length (subF c row k) = subL c row :=
  tabL_congr fun i hi => by rw [subF, if_pos (by omega)]
set_option maxHeartbeats 1000000 in
theorem sumsWithout_any (vc vr : Value) (c row : List Int) (w : World) (hc : InRow w vc c) (hr : InRow w vr row) (hl : row.length = c.length) (hn : c.length ≤ 5) (hM : ∀ x, x < c.length → -1000 ≤ c.getD x 0 ∧ c.getD x 0 ≤ 1000) (hR : ∀ x, x < c.length → -1000 ≤ row.getD x 0 ∧ row.getD x 0 ≤ 1000) :
    Calls Try.prog 102 #[vc, vr] w (IntsRes (subL c row) w) := by
  have HCL := hide (clone_any vc c w hc (by omega))
  have HM := hide hM; have HRR := hide hR
  obtain ⟨a, ca, rfl, hm, hp⟩ := hr
  unfold maxLen at hm
  have HP := hide fun h : row.length ≠ 0 => hp.resolve_left h
  have HZ := hide (subF_zero c row); have HA := hide (subF_all c row)
  have HX : Hid (∀ x, (h : x < row.length) → row.getD x 0 = row[x]) := hide fun x h => by rw [List.getD_eq_getElem?_getD, List.getElem?_eq_getElem h]; rfl
  rw [hl] at hm ⊢
  have HLL : Hid (row.length = c.length) := hide hl
  obtain ⟨C, hC⟩ : ∃ C, C = c.length := ⟨_, rfl⟩
  have HC := hide hC
  rw [← hC] at HZ HA hm hn HM HRR HLL ⊢
  clear hc hM hR hp hC hl
  go_enter Try.func102, Try.ntmps102
  go_wp2_with fail
  refine HCL.out.mono ?_
  rintro e w1 ⟨v1, rfl, ho, hb⟩
  rw [← HC.out] at ho
  obtain ⟨xa, xc, rfl⟩ := own_slice ho
  have HO := hide ho; have HB := hide hb
  clear ho hb
  go_wp2
  go_loopw [12] (fun i w' => ∃ k : Nat, k ≤ C ∧ i = .int .i64 k ∧ w'.ownsRow w.heap.size 3 1 (.slice xa C xc) C (ints (tabL C (subF c row k))) ∧ Below w.heap.size w w') (fun i _ => C - (intOf i).toNat)
  case atStart => exact ⟨0, Nat.zero_le _, rfl, by rw [HZ.out]; exact HO.out, HB.out⟩
  case round =>
    clear HO HB
    obtain ⟨k, hk, rfl, hown, hb⟩ := hrel
    have HO := hide hown; have HB := hide hb
    clear hb
    by_cases hlt : k < C
    · have hkr : k < row.length := by rw [HLL.out]; exact hlt
      obtain ⟨g, o, rfl, hg, hcell⟩ := HP.out (by omega)
      obtain ⟨g1, c1, he, hb1, -, -, -, -, -⟩ := own_some hown (by omega)
      cases he
      have hx := below_cell HB.out hg (hcell k hkr)
      rw [← HX.out k hkr] at hx
      have hc1 := cell_held HO.out hlt
      rw [tabL_held hlt, subF, if_neg (Nat.lt_irrefl k), Int.sub_zero] at hc1
      have hf := HO.out.frozenAt k
      have hm1 := HM.out k hlt
      have hm2 := HRR.out k hlt
      have HS := HO.out.stored k (.int .i64 (c.getD k 0 - row.getD k 0))
      rw [ints_set, tabL_set] at HS
      rw [show (tabL C fun t => if t = k then c.getD k 0 - row.getD k 0 else subF c row k t) = tabL C (subF c row (k + 1)) from tabL_congr fun i _ => by
        unfold subF
        by_cases e : i = k
        · subst e; rw [if_pos rfl, if_pos (Nat.lt_succ_self _)]
        · rw [if_neg e]
          by_cases e' : i < k
          · rw [if_pos e', if_pos (by omega)]
          · rw [if_neg e', if_neg (by omega)]] at HS
      have HS := hide HS
      obtain ⟨x1, hx1⟩ : ∃ x1, x1 = c.getD k 0 := ⟨_, rfl⟩
      obtain ⟨x2, hx2⟩ : ∃ x2, x2 = row.getD k 0 := ⟨_, rfl⟩
      rw [← hx1] at hc1 hm1 HS
      rw [← hx2] at hx hm2 HS
      obtain ⟨hm11, hm12⟩ := hm1
      obtain ⟨hm21, hm22⟩ := hm2
      clear hx1 hx2 hown hcell
      go_wp2
      go_roundw
      case rel => exact ⟨k + 1, by omega, by go_num, HS.out.1, HB.out.setCell hb1 _⟩
      case measure => simp [intOf]; omega
    · obtain rfl : k = C := by omega
      have HF := hide (HA.out k (Nat.le_refl _))
      rw [HF.out] at HO
      clear hown
      go_wp2
      go_ret
      exact ⟨_, rfl, by rw [subL_len, ← HC.out]; exact HO.out, HB.out⟩

/-- The slice reads as r, and its capacity is no less than its length. -/
def RowC (w : World) (v : Value) (r : List Int) : Prop := InRow w v r ∧ ∃ a c, v = .slice a r.length c ∧ r.length ≤ c ∧ c ≤ maxLen
theorem rowC_below {w w' : World} {v : Value} {r : List Int} (h : RowC w v r) (hb : Below w.heap.size w w') : RowC w' v r := ⟨inRow_below h.1 hb, h.2⟩
theorem rowC_own {w : World} {base : Nat} {v : Value} {r : List Int} (h : w.ownsRow base 3 1 v r.length (ints r)) : RowC w v r := by
  refine ⟨inRow_own h, ?_⟩
  rcases h.2 with ⟨rfl, h0⟩ | ⟨g, cap, cur, rfl, hbg, hg, hc, hm, _⟩
  · exact ⟨none, 0, by rw [h0], by omega, Nat.zero_le _⟩
  · exact ⟨_, _, rfl, hc, hm⟩
theorem rowC_tail {w : World} {g o n c : Nat} {x : Int} {r : List Int} (h : RowC w (.slice (some ⟨g, o, none⟩) n c) (x :: r)) : RowC w (.slice (if c = 1 then some ⟨g, o, none⟩ else some ⟨g, o + 1, none⟩) (n - 1) (c - 1)) r := by
  obtain ⟨⟨a, c', he, hm, hp⟩, a2, c2, he2, hl, hmx⟩ := h
  cases he; cases he2
  simp only [List.length_cons, Nat.add_sub_cancel] at hl hm ⊢
  refine ⟨⟨_, _, rfl, by omega, ?_⟩, _, _, rfl, by omega, by omega⟩
  obtain ⟨g', o', he', hg, hc⟩ := hp.resolve_left (by simp)
  cases he'
  by_cases h0 : r.length = 0
  · exact .inl h0
  · rw [if_neg (by omega)]
    refine .inr ⟨g, o + 1, rfl, hg, fun i hi => ?_⟩
    have := hc (i + 1) (by simp; omega)
    rw [List.getElem_cons_succ] at this
    rw [← this, show o + (i + 1) = o + 1 + i by omega]
end Go.Proofs.Ytjgkblgilnfpfaa
/-
  imageBy of the program: rows continued by a function that calls itself through a variable.
-/
namespace Go.Proofs.Ytjgkblgilnfpfaa
open Go.RowKit Go.Shelf

/-- A call of a function value that a slot holds. -/
theorem run_callv {P : Program} {Q : Exit → Act → World → Prop} {o : Oper} {a : Act} {w : World} {K : Act → World → Prop} {f : FuncId} {cb : Array Value} {x : Operand} {xs : Array Operand} {ts : Array TypeId} (ho : o.op = .call { callee := .value x, args := xs, argTypes := ts })
    (hx : a.eval x = .func (.func f) #[] cb) (eg : ∀ args w, (callFunc f args).run P w = .ok (.enter f args) w) (args : Array Value) (hxs : xs.map a.eval = args) (h : Calls P f (args ++ cb) w fun e w' => ∃ v, e = .returned v ∧ K (a.put o.dst v) w') : o.wp P a w K Q := by
  subst hxs
  unfold Oper.wp
  simp only [execOp, ho, resolve, hx, Deferred.ofValue]
  simp [invoke, eg, Oper.upon]
  refine Calls.mono h ?_
  rintro e w' ⟨v, rfl, hk⟩
  exact hk

/-- 'append([][]int{row}, rest...)'. -/
theorem exec_consMat {ρ : Operand → Value} {o : Oper} {w : World} {x y : Operand} {b lo0 hi0 lo hi : Nat} {v2 urow : Value} {row : List Int} {m2 : List (List Int)}
    (ho : o.op = .call { callee := .builtin .append, args := #[x, y], argTypes := #[23, 23] }) (hx : ρ x = .slice (some ⟨b, 0, none⟩) 1 1) (hy : ρ y = v2)
    (hown : w.ownsRow b 24 1 (.slice (some ⟨b, 0, none⟩) 1 1) 1 [urow]) (hrow : w.ownsRow lo0 3 1 urow row.length (ints row)) (hrk : ∀ k, urow.ownBlock = some k → k < hi0)
    (hm : OwnMat w lo hi v2 m2) (h1 : lo0 ≤ hi0) (h2 : hi0 ≤ lo) (h3 : hi0 ≤ b) (h4 : hi ≤ w.heap.size) (h5 : m2.length ≤ 1000) (h6 : b < w.heap.size) :
    ∃ v' w', (execOp ρ o).run Try.prog w = .ok (.value v') w' ∧ OwnMat w' lo0 w'.heap.size v' (row :: m2) ∧ w.grownBy w' (some b) := by
  obtain ⟨vs, hv, hvh, hvr, hva⟩ := hm
  have hvl : vs.length = m2.length := by have := hv.1; omega
  obtain ⟨i0, hi0', hz0, hz1, hz2⟩ := info_parts Try.infoInts
  have key : ∃ v' w', (Builtin.append_ #[23, 23] o.type #[.slice (some ⟨b, 0, none⟩) 1 1, v2]).run Try.prog w = .ok v' w' ∧ w'.ownsRow b 24 1 v' (1 + m2.length) ([urow] ++ vs) ∧ w.grownBy w' (some b) := by
    rcases hv.2 with ⟨rfl, h0⟩ | ⟨g, cap, cur, rfl, hbg, hg, hc, hmx, hcs, htk⟩
    · have hvs : vs = [] := List.eq_nil_of_length_eq_zero (by omega)
      refine ⟨_, w, run_append_owned_none (P := Try.prog) w b 23 o.type 24 i0 1 Try.underlying23 hi0' _ 1 [urow] hown, ?_, ⟨rfl, rfl, rfl, Nat.le_refl _, fun _ _ _ => rfl⟩⟩
      rw [hvs, h0]; exact hown
    · obtain ⟨v', w', hr, g1, g2, -⟩ := run_append_own (P := Try.prog) w b 23 o.type 24 i0 (.slice none 0 0) 1 24 Try.underlying23 hi0' hz0 hz1 hz2 rfl (by decide) _ 1 [urow] hown ⟨g, 0, none⟩ m2.length cap vs (by omega) (fun j u hj => by
          rw [addr_add, Nat.zero_add]
          have hj' : j < m2.length := by have := (List.getElem?_eq_some_iff.1 hj).1; omega
          rw [hv.cellAt j (by omega), hj]) (fun u hu => by
          obtain ⟨j, hj, rfl⟩ := List.getElem_of_mem hu
          obtain ⟨q1, -⟩ := hvr j (by omega)
          rw [List.getD_eq_getElem?_getD, List.getElem?_eq_getElem hj, Option.getD_some] at q1
          obtain ⟨a, c, e⟩ := own_slice q1
          rw [e]; rfl) (by unfold maxLen; omega) (by omega) (by omega)
      exact ⟨v', w', hr, g1, g2⟩
  obtain ⟨v', w', hr, g1, g2⟩ := key
  have hsz := g2.size
  have hkeep : ∀ {lo n : Nat} {u : Value} {xs : List Value}, w.ownsRow lo 3 1 u n xs → w'.ownsRow lo 3 1 u n xs := fun {lo n u xs} h => h.kept g2 (by
    have := own_types h hown (by decide)
    simpa [Value.ownBlock] using this)
  refine ⟨v', w', ?_, ⟨urow :: vs, ?_, fun k e => (g1.lt k e).2, fun i h => ?_, fun i j hij hj => ?_⟩, g2⟩
  · unfold execOp
    simp only [ho, resolve, invoke, builtin, Sem.run_bind, Sem.run_pure, Result.andThen_ok, List.map_toArray, List.map_cons, List.map_nil, hx, hy, hr]
  · have := own_base (base' := lo0) g1 (by omega)
    rw [List.length_cons, Nat.add_comm]; exact this
  · cases i with
    | zero => exact ⟨hkeep hrow, fun k hk => by have := hrk k hk; omega⟩
    | succ i =>
      have hi' : i < m2.length := by simpa using h
      obtain ⟨q1, q2⟩ := hvr i hi'
      exact ⟨own_base (hkeep q1) (by omega), fun k hk => by have := q2 k hk; omega⟩
  · cases j with
    | zero => omega
    | succ j =>
      have hj' : j < m2.length := by simpa using hj
      cases i with
      | zero =>
        show urow.ownBlock = none ∨ urow.ownBlock ≠ (vs.getD j undef).ownBlock
        cases hk : urow.ownBlock with
        | none => exact .inl rfl
        | some k =>
          refine .inr fun e => ?_
          have q1 := hrk k hk
          have q2 := ((hvr j hj').1.lt k e.symm).1
          omega
      | succ i => exact hva i j (by omega) hj'

/-- What is asked of the choice of the next row. -/
structure Choice (g : Nat) (ch : List Int → List Int → List Int) (Inv : List Int → List Int → Prop) : Prop where
  enters : ∀ args w, (callFunc g args).run Try.prog w = .ok (.enter g args) w
  calls : ∀ (a : Int) (r c : List Int) (vr vc : Value) (w : World), Inv (a :: r) c → RowC w vr (a :: r) → InRow w vc c → Calls Try.prog g #[vr, vc] w (IntsRes (ch (a :: r) c) w)
  next : ∀ (a : Int) (r c : List Int), Inv (a :: r) c → r.length ≤ 4 ∧ c.length ≤ 5 ∧ (ch (a :: r) c).length = c.length ∧ Inv r (subL c (ch (a :: r) c)) ∧ (∀ x, x < c.length → -1000 ≤ c.getD x 0 ∧ c.getD x 0 ≤ 1000) ∧ ∀ x, x < c.length → -1000 ≤ (ch (a :: r) c).getD x 0 ∧ (ch (a :: r) c).getD x 0 ≤ 1000

/-- A list of one row, made behind B. -/
def oneRow (B : Nat) (u0 : Value) : FactP := fun u w2 => ∃ b, u = .slice (some ⟨b, 0, none⟩) 1 1 ∧ B ≤ b ∧ b < w2.heap.size ∧ w2.ownsRow b 24 1 (.slice (some ⟨b, 0, none⟩) 1 1) 1 [u0]
theorem stable_oneRow (B : Nat) (u0 : Value) : StableP (oneRow B u0) := fun _ _ _ hb h => by
  obtain ⟨b, h1, h2, h3, h4⟩ := h
  exact ⟨b, h1, h2, Nat.lt_of_lt_of_le h3 hb.size, own_below h4 hb⟩
def ownI (B : Nat) (r : List Int) : FactP := fun u w2 => w2.ownsRow B 3 1 u r.length (ints r)
theorem stable_ownI (B : Nat) (r : List Int) : StableP (ownI B r) := fun _ _ _ hb h => own_below h hb
def ownM (B : Nat) (m : List (List Int)) : FactP := fun u w2 => ∃ lo hi, B ≤ lo ∧ hi ≤ w2.heap.size ∧ OwnMat w2 lo hi u m
theorem stable_ownM (B : Nat) (m : List (List Int)) : StableP (ownM B m) := fun _ _ _ hb h => by
  obtain ⟨lo, hi, h1, h2, h3⟩ := h
  exact ⟨lo, hi, h1, Nat.le_trans h2 hb.size, ownMat_below h3 hb⟩
theorem exec_build1 {ρ : Operand → Value} {o : Oper} {w : World} {x : Operand} {a : Option Addr} {n c : Nat} (ho : o.op = .buildSlice 23 1 #[(0, x)]) (hx : ρ x = .slice a n c) :
    (execOp ρ o).run Try.prog w = .ok (.value (.slice (some ⟨w.heap.size, 0, none⟩) 1 1)) (w.alloc (.cells #[.slice a n c] 24)) := by
  unfold execOp
  simp only [ho]
  go_simp

set_option maxHeartbeats 400000 in
theorem imageRec_nil (vr vc : Value) (p1 p2 : Value) (w : World) (hr : InRow w vr []) :
    Calls Try.prog 110 #[vr, vc, p1, p2] w (MatRes [] w) := by
  obtain ⟨a, c, rfl, -, -⟩ := hr
  simp only [List.length_nil]
  go_enter Try.func110, Try.ntmps110
  go_wp2
  go_ret
  exact matRes_nil (Below.refl _ _)
set_option maxRecDepth 100000 in
set_option maxHeartbeats 4000000 in
theorem imageRec_cons (g : Nat) (ch : List Int → List Int → List Int) (Inv : List Int → List Int → Prop) (H : Choice g ch Inv) (x0 : Int) (r c : List Int) (vr vc : Value) (q1 q2 : Nat) (w : World)
    (ih : ∀ (c : List Int) (vr vc : Value) (w : World), Inv r c → RowC w vr r → InRow w vc c → q1 < w.heap.size → q2 < w.heap.size → w.cell? ⟨q1, 0, none⟩ = some (.func (.func g) #[] #[]) → w.cell? ⟨q2, 0, none⟩ = some (.func (.func 110) #[] #[.pointer (some ⟨q1, 0, none⟩), .pointer (some ⟨q2, 0, none⟩)]) →
      Calls Try.prog 110 #[vr, vc, .pointer (some ⟨q1, 0, none⟩), .pointer (some ⟨q2, 0, none⟩)] w (MatRes (imgL ch r c) w))
    (hI : Inv (x0 :: r) c) (hr : RowC w vr (x0 :: r)) (hc : InRow w vc c) (hq1 : q1 < w.heap.size) (hq2 : q2 < w.heap.size) (hv1 : w.cell? ⟨q1, 0, none⟩ = some (.func (.func g) #[] #[])) (hv2 : w.cell? ⟨q2, 0, none⟩ = some (.func (.func 110) #[] #[.pointer (some ⟨q1, 0, none⟩), .pointer (some ⟨q2, 0, none⟩)])) :
    Calls Try.prog 110 #[vr, vc, .pointer (some ⟨q1, 0, none⟩), .pointer (some ⟨q2, 0, none⟩)] w (MatRes (imgL ch (x0 :: r) c) w) := by
  obtain ⟨n1, n2, n3, n4, n5, n6⟩ := H.next x0 r c hI
  have hcall := H.calls x0 r c vr vc w hI hr hc
  have eg := H.enters
  rw [imgL]
  obtain ⟨row, hrow⟩ : ∃ row, row = ch (x0 :: r) c := ⟨_, rfl⟩
  rw [← hrow] at n3 n4 n6 hcall ⊢
  obtain ⟨l, hl⟩ : ∃ l, l = subL c row := ⟨_, rfl⟩
  have HL := hide hl
  rw [← hl] at n4 ⊢
  obtain ⟨M2, hM2⟩ : ∃ M2, M2 = imgL ch r l := ⟨_, rfl⟩
  have HM2 := hide hM2
  have hlen2 : M2.length ≤ 1000 := by rw [hM2, imgL_len]; omega
  have HLEN2 := hide hlen2
  rw [← hM2]
  have HIH := hide ih; have HN4 := hide n4; have HN5 := hide n5; have HN6 := hide n6; have HN3 := hide n3; have HCALL := hide hcall; have HR := hide hr; have HC := hide hc; have HQ1 := hide hq1; have HQ2 := hide hq2; have HV2 := hide hv2; have HV1 := hide hv1; have HN2 := hide n2
  clear ih n1 n2 n3 n4 n5 n6 hcall hrow hl hM2 hI hlen2
  have HT := hr
  obtain ⟨⟨a, cr, he, hm, hp⟩, -⟩ := hr
  obtain ⟨gr, or', rfl, hgr, -⟩ := hp.resolve_left (by simp)
  have hcap : r.length + 1 ≤ cr ∧ cr ≤ maxLen := by
    obtain ⟨-, a2, c2, he2, h2, h3⟩ := HT
    rw [he] at he2; cases he2
    simpa using ⟨h2, h3⟩
  obtain ⟨hcap1, hcap2⟩ := hcap
  subst he
  obtain ⟨at1, hat1⟩ : ∃ at1, at1 = if cr = 1 then some (⟨gr, or', none⟩ : Addr) else some ⟨gr, or' + 1, none⟩ := ⟨_, rfl⟩
  have HAT := hide hat1
  have htail := rowC_tail HT
  rw [← hat1] at htail
  have HTAIL := hide htail
  clear hat1 htail
  obtain ⟨ac, cc, rfl, hmc, -⟩ := hc
  simp only [List.length_cons, Nat.add_sub_cancel] at *
  unfold maxLen at hcap2 hmc hm
  obtain ⟨R, hRR⟩ : ∃ R, R = r.length := ⟨_, rfl⟩
  obtain ⟨C, hCC⟩ : ∃ C, C = c.length := ⟨_, rfl⟩
  have HRR := hide hRR; have HCC := hide hCC
  rw [← hRR] at HR HTAIL HCALL hcap1 hm ⊢
  rw [← hCC] at HC HCALL hmc HN3 HN5 HN6 HN2 ⊢
  clear hp HT hRR hCC hgr
  go_enter Try.func110, Try.ntmps110
  go_wp2_with (go_at_fn g; refine HCALL.out.mono ?_; rintro e w1 ⟨v1, rfl, ho, hb⟩; have HO := hide ho; have HB := hide hb; obtain ⟨ua, uc, rfl⟩ := own_slice ho; clear ho hb)
  have hs1 := HB.out.size
  have HSL : Hid (subL c row = l) := hide HL.out.symm
  obtain ⟨fs, hfs⟩ : ∃ fs : List FactP, fs = [isV (.slice ua row.length uc), oneRow w1.heap.size (.slice ua row.length uc), isV (.func (.func 110) #[] #[.pointer (some ⟨q1, 0, none⟩), .pointer (some ⟨q2, 0, none⟩)]), isV (.slice (some ⟨gr, or', none⟩) (R + 1) cr), isV (.slice at1 R (cr - 1)), isV (.slice ac C cc), isV (.slice ua row.length uc), ownI w1.heap.size l, ownM w1.heap.size M2, ownM w.heap.size (row :: M2)] := ⟨_, rfl⟩
  have hst : ∀ f ∈ fs, StableP f := by
    rw [hfs]; intro f hf
    simp only [List.mem_cons, List.not_mem_nil, or_false] at hf
    rcases hf with rfl | rfl | rfl | rfl | rfl | rfl | rfl | rfl | rfl | rfl <;> first | exact stable_v _ | exact stable_oneRow _ _ | exact stable_ownI _ _ | exact stable_ownM _ _
  subst hfs
  have hS1 : ∀ (w2 w3 : World), Below w1.heap.size w1.drew w2 → Below w2.heap.size w2 w3 → Below w1.heap.size w1.drew w3 := fun w2 w3 h k => h.trans (k.mono h.size)
  refine wp_region_need (S := fun w2 => Below w1.heap.size w1.drew w2) [isV (.slice ua row.length uc), oneRow w1.heap.size (.slice ua row.length uc), isV (.func (.func 110) #[] #[.pointer (some ⟨q1, 0, none⟩), .pointer (some ⟨q2, 0, none⟩)]), isV (.slice (some ⟨gr, or', none⟩) (R + 1) cr), isV (.slice at1 R (cr - 1)), isV (.slice ac C cc), isV (.slice ua row.length uc), ownI w1.heap.size l, ownM w1.heap.size M2, ownM w.heap.size (row :: M2)] [(0, .slice (some ⟨gr, or', none⟩) (R + 1) cr), (1, .slice ac C cc), (3, .pointer (some ⟨q2, 0, none⟩)), (7, .slice ua row.length uc)] _ _ 10 (by kernel_rfl) rfl rfl (by kernel_rfl) (by kernel_rfl) rfl (by kernel_rfl) ?base (Below.refl _ _) ?ob rfl ?fin
  case base =>
    intro t v ht
    simp only [List.lookup_cons, List.lookup_nil] at ht
    repeat' split at ht
    all_goals first | (cases ht; done) | (obtain rfl := Option.some.inj ht; rename_i hh; obtain rfl := eq_of_beq hh; rfl)
  case ob =>
    exact ⟨obn_of (by kernel_rfl) (obt_move (.slice ua row.length uc) rfl rfl rfl (srt_b 7 rfl)),
      obn_of (by kernel_rfl) (obt_make hst rfl fun a w2 hS hs => ⟨_, _, exec_build1 (w := w2) rfl (hs _ _ (srt_j 0 rfl (by kernel_rfl) rfl)), hS1 _ _ hS ((Below.refl _ _).alloc (Nat.le_refl _) _), (Below.refl _ _).alloc (Nat.le_refl _) _,
        ⟨w2.heap.size, rfl, hS.size, by simp, World.ownsRow_lit w2 #[.slice ua row.length uc] 1 (Nat.le_refl _) (by decide) rfl⟩⟩),
      obn_of (by kernel_rfl) (obt_one (.func (.func 110) #[] #[.pointer (some ⟨q1, 0, none⟩), .pointer (some ⟨q2, 0, none⟩)]) rfl rfl (srt_b 3 rfl) (fun ρ w2 hS hx => by
        have hv := below_cell (below_drew (Below.refl _ w1) |>.trans hS) (Nat.lt_of_lt_of_le HQ2.out hs1) (below_cell HB.out HQ2.out HV2.out)
        go_simp)),
      obn_of (by kernel_rfl) (obt_move (.slice (some ⟨gr, or', none⟩) (R + 1) cr) rfl rfl rfl (srt_b 0 rfl)),
      obn_of (by kernel_rfl) (obt_two (.slice at1 R (cr - 1)) rfl rfl (srt_j 3 rfl (by kernel_rfl) rfl) (srt_c (v := .int .i64 1)) (fun ρ w2 hS hx hy => by have hat := HAT.out; go_simp; intro h; omega)),
      obn_of (by kernel_rfl) (obt_move (.slice ac C cc) rfl rfl rfl (srt_b 1 rfl)),
      obn_of (by kernel_rfl) (obt_move (.slice ua row.length uc) rfl rfl rfl (srt_b 7 rfl)),
      obn_of (by kernel_rfl) (obt_call hst [.slice ac C cc, .slice ua row.length uc] rfl Try.func102 (by kernel_rfl) (by kernel_rfl) rfl ⟨srt_j 5 rfl (by kernel_rfl) rfl, srt_j 6 rfl (by kernel_rfl) rfl, trivial⟩ (fun w2 hS => by
        have hb := (below_drew (Below.refl _ w1)).trans hS
        refine (sumsWithout_any _ _ c row w2 (inRow_below HC.out (HB.out.trans (hb.mono hs1))) (inRow_below (inRow_own HO.out) hb) (by rw [HN3.out, HCC.out]) (by rw [← HCC.out]; exact HN2.out) (fun x hx => HN5.out x (by rw [HCC.out]; exact hx)) (fun x hx => HN6.out x (by rw [HCC.out]; exact hx))).mono ?_
        rintro e w3 ⟨u, rfl, ho, hb3⟩
        rw [HSL.out] at ho
        exact ⟨u, rfl, hS1 _ _ hS hb3, hb3, own_base ho hS.size⟩)),
      obn_of (by kernel_rfl) (fun a w2 hS hB hD K hK => ⟨.inl rfl, run_callv (o := _) (cb := #[.pointer (some ⟨q1, 0, none⟩), .pointer (some ⟨q2, 0, none⟩)]) rfl (hD 2 17 rfl (by kernel_rfl)) (enters_of Try.func110 (by kernel_rfl) rfl) #[.slice at1 R (cr - 1), a.tmps.getD 22 undef] (by
          have h19 : a.tmps.getD 19 undef = .slice at1 R (cr - 1) := hD 4 19 rfl (by kernel_rfl)
          simp only [List.map_toArray, List.map_cons, List.map_nil]
          rw [show a.eval (.tmp 19) = a.tmps.getD 19 undef from rfl, h19]; rfl) (by
          have hb := (below_drew (Below.refl _ w1)).trans hS
          have hb0 := HB.out.trans (hb.mono hs1)
          have h22 : ownI w1.heap.size l (a.tmps.getD 22 undef) w2 := hD 7 22 rfl (by kernel_rfl)
          have hcl := HIH.out l _ (a.tmps.getD 22 undef) w2 HN4.out (rowC_below HTAIL.out hb0) (inRow_own h22) (Nat.lt_of_lt_of_le HQ1.out hb0.size) (Nat.lt_of_lt_of_le HQ2.out hb0.size) (below_cell hb0 HQ1.out HV1.out) (below_cell hb0 HQ2.out HV2.out)
          rw [← HM2.out] at hcl
          refine Calls.mono hcl ?_
          rintro e w3 ⟨u, rfl, ho, hb3⟩
          exact ⟨u, rfl, hK _ _ (hS1 _ _ hS hb3) (fun j u h => stable_all hst j u _ _ hb3 h) ⟨w2.heap.size, w3.heap.size, hS.size, Nat.le_refl _, ho⟩⟩)⟩),
      fun a w2 hS hB hD K hK => by
        obtain ⟨b, e16, hb1, hb2, hown⟩ : oneRow w1.heap.size (.slice ua row.length uc) (a.tmps.getD 16 undef) w2 := hD 1 16 rfl (by kernel_rfl)
        obtain ⟨lo, hi, hlo, hhi, hmat⟩ : ownM w1.heap.size M2 (a.tmps.getD 23 undef) w2 := hD 8 23 rfl (by kernel_rfl)
        have hb := (below_drew (Below.refl _ w1)).trans hS
        obtain ⟨v', w3, hr, hm3, hg3⟩ := exec_consMat (ρ := a.eval) (o := { dst := some 24, op := .call { callee := .builtin .append, args := #[.tmp 16, .tmp 23], argTypes := #[23, 23] }, type := 23, pos := "l05_build.go:20", after := #[{ on := 1, ground := .data }, { on := 8, ground := .data }, { on := 8, ground := .chain }], guard := none }) (w := w2) (row := row) (lo0 := w.heap.size) (hi0 := w1.heap.size) rfl e16 rfl hown (own_below HO.out hb) (fun k e => (HO.out.lt k e).2) hmat hs1 hlo hb1 hhi HLEN2.out hb2
        exact ⟨.inl rfl, run_value v' hr (hK _ _ (hS.trans ((Below.refl _ _).grown hg3 hS.size (fun k hk => by cases hk; exact hb1))) (fun j hj => absurd (needL_of hj) (by rw [show needL _ 9 = [] by kernel_rfl]; simp)) ⟨w.heap.size, w3.heap.size, Nat.le_refl _, Nat.le_refl _, hm3⟩)⟩,
      trivial⟩
  case fin =>
    intro a' w' h1 h2 h3 hS h4 K hK
    obtain ⟨lo, hi, hlo, hhi, hmat⟩ : ownM w.heap.size (row :: M2) (a'.tmps.getD 24 undef) w' := h4 9 24 rfl (by decide) (by kernel_rfl)
    obtain ⟨v24, hv24⟩ : ∃ v24, a'.tmps.getD 24 undef = v24 := ⟨_, rfl⟩
    rw [hv24] at hmat
    refine tail_assign rfl (show a'.eval (.tmp 24) = v24 from hv24) ?_ K hK
    have HMT := hide (ownMat_mono hmat hlo hhi)
    have HBE := hide (HB.out.trans (((below_drew (Below.refl _ w1)).trans hS).mono hs1))
    clear hst h3 h4 hK hS1 hv24 hmat
    go_wp2
    exact bodyPost_ret (results_tmp rfl _ _ _) rfl ⟨v24, congrArg Ending.returned (set_get (d := 6) (n := 25) h1 (by decide)), HMT.out, HBE.out⟩
theorem imageRec_any (g : Nat) (ch : List Int → List Int → List Int) (Inv : List Int → List Int → Prop) (H : Choice g ch Inv) (q1 q2 : Nat) : ∀ (r c : List Int) (vr vc : Value) (w : World), Inv r c → RowC w vr r → InRow w vc c → q1 < w.heap.size → q2 < w.heap.size → w.cell? ⟨q1, 0, none⟩ = some (.func (.func g) #[] #[]) →
    w.cell? ⟨q2, 0, none⟩ = some (.func (.func 110) #[] #[.pointer (some ⟨q1, 0, none⟩), .pointer (some ⟨q2, 0, none⟩)]) →
      Calls Try.prog 110 #[vr, vc, .pointer (some ⟨q1, 0, none⟩), .pointer (some ⟨q2, 0, none⟩)] w (MatRes (imgL ch r c) w) := by
  intro r
  induction r with
  | nil => intro c vr vc w _ hr _ _ _ _ _; exact imageRec_nil vr vc _ _ w hr.1
  | cons x r ih => intro c vr vc w hI hr hc hq1 hq2 hv1 hv2; exact imageRec_cons g ch Inv H x r c vr vc q1 q2 w ih hI hr hc hq1 hq2 hv1 hv2
theorem setRow_size (w : World) (g : Nat) (cs : Array Value) : (w.setRow g cs).heap.size = w.heap.size := by simp [World.setRow]
theorem setRow_below (B : Nat) (w : World) (g : Nat) (cs : Array Value) (h : B ≤ g) : Below B w (w.setRow g cs) :=
  ⟨rfl, rfl, rfl, by rw [setRow_size]; exact Nat.le_refl _, fun k hk => setRow_other w g k cs (by omega)⟩
theorem cell_setRow_ne (w : World) (g k : Nat) (cs : Array Value) (h : k ≠ g) : (w.setRow g cs).cell? ⟨k, 0, none⟩ = w.cell? ⟨k, 0, none⟩ := by
  unfold World.cell?
  dsimp only
  rw [setRow_other w g k cs h]
set_option maxHeartbeats 1000000 in
theorem imageBy_any (g : Nat) (ch : List Int → List Int → List Int) (Inv : List Int → List Int → Prop) (H : Choice g ch Inv) (r c : List Int) (vr vc : Value) (w : World) (hI : Inv r c) (hr : RowC w vr r) (hc : InRow w vc c) :
    Calls Try.prog 92 #[vr, vc, .func (.func g) #[] #[]] w (MatRes (imgL ch r c) w) := by
  have HR := hide hr; have HC := hide hc; have HREC := hide (imageRec_any g ch Inv H (w.heap.size) (w.heap.size + 1) r c vr vc)
  have HI := hide hI
  clear hr hc hI
  have hat : ((w.alloc (.cells #[Value.func (Fn.func g) #[] #[]] 91)).alloc (.cells #[Value.nilFunc] 41)).heap[w.heap.size + 1]? = some (.cells #[Value.nilFunc] 41 (0, 0)) := by
    have := heap_alloc_new (w.alloc (.cells #[Value.func (Fn.func g) #[] #[]] 91)) (.cells #[Value.nilFunc] 41)
    rwa [World.size_alloc] at this
  have hbw := ((Below.refl w.heap.size w).alloc (Nat.le_refl _) (.cells #[Value.func (Fn.func g) #[] #[]] 91)).alloc (by simp) (.cells #[Value.nilFunc] 41)
  have hc0 : ((w.alloc (.cells #[Value.func (Fn.func g) #[] #[]] 91)).alloc (.cells #[Value.nilFunc] 41)).cell? ⟨w.heap.size, 0, none⟩ = some (.func (.func g) #[] #[]) := by
    have h0 : (w.alloc (.cells #[Value.func (Fn.func g) #[] #[]] 91)).cell? ⟨w.heap.size, 0, none⟩ = some (.func (.func g) #[] #[]) := by simp [World.cell?_alloc_new]
    exact below_cell ((Below.refl _ _).alloc (Nat.le_refl _) _) (by simp) h0
  have hsz2 : ((w.alloc (.cells #[Value.func (Fn.func g) #[] #[]] 91)).alloc (.cells #[Value.nilFunc] 41)).heap.size = w.heap.size + 2 := by simp
  have HBW := hide hbw; have HC0 := hide hc0; have HSZ := hide hsz2
  have HAT := hide hat
  clear hat hbw hc0 hsz2
  go_enter Try.func92, Try.ntmps92
  have HFACT : Hid (∀ W3, W3 = (((w.alloc (.cells #[Value.func (Fn.func g) #[] #[]] 91)).alloc (.cells #[Value.nilFunc] 41))).setRow (w.heap.size + 1) #[.func (.func 110) #[] #[.pointer (some ⟨w.heap.size, 0, none⟩), .pointer (some ⟨w.heap.size + 1, 0, none⟩)]] → Below w.heap.size w W3 ∧ W3.cell? ⟨w.heap.size, 0, none⟩ = some (.func (.func g) #[] #[]) ∧ W3.cell? ⟨w.heap.size + 1, 0, none⟩ = some (.func (.func 110) #[] #[.pointer (some ⟨w.heap.size, 0, none⟩), .pointer (some ⟨w.heap.size + 1, 0, none⟩)]) ∧ W3.heap.size = w.heap.size + 2) := hide fun W3 h3 => by
    subst h3
    refine ⟨?_, ?_, ?_, ?_⟩
    · exact HBW.out.trans ((setRow_below (w.heap.size) _ (w.heap.size + 1) _ (by omega)))
    · rw [cell_setRow_ne _ _ _ _ (by simp)]; exact HC0.out
    · rw [cell_setRow_same _ _ 0 _ _ _ _ HAT.out]; rfl
    · rw [setRow_size]; exact HSZ.out
  go_wp2_with (refine wpList_store_oneTo rfl 41 _ _ rfl rfl (w.heap.size + 1) (.func (.func 110) #[] #[.pointer (some ⟨w.heap.size, 0, none⟩), .pointer (some ⟨w.heap.size + 1, 0, none⟩)]) rfl rfl rfl 41 .nilFunc HAT.out (by kernel_rfl) ?_; generalize hW3 : (((w.alloc (.cells #[Value.func (Fn.func g) #[] #[]] 91)).alloc (.cells #[Value.nilFunc] 41))).setRow (w.heap.size + 1) #[.func (.func 110) #[] #[.pointer (some ⟨w.heap.size, 0, none⟩), .pointer (some ⟨w.heap.size + 1, 0, none⟩)]] = W3; obtain ⟨hb3, hc30, hc31, hs3⟩ := HFACT.out W3 hW3.symm; have HB3 := hide hb3; have HC30 := hide hc30; have HC31 := hide hc31; have HS3 := hide hs3; clear hW3 hb3 hs3)
  refine (HREC.out W3 HI.out (rowC_below HR.out HB3.out) (inRow_below HC.out HB3.out) (by rw [HS3.out]; omega) (by rw [HS3.out]; omega) HC30.out HC31.out).mono ?_
  rintro e w4 ⟨v, rfl, ho, hb⟩
  have HO := hide (ownMat_mono ho HB3.out.size (Nat.le_refl _)); have HBE := hide (HB3.out.trans (hb.mono HB3.out.size))
  clear ho hb
  go_wp2
  go_ret
  exact ⟨_, rfl, HO.out, HBE.out⟩
end Go.Proofs.Ytjgkblgilnfpfaa
/-
  l04Gap, WorstColumns, Exists, SlackOf of the model.
-/
namespace Go.Proofs.Ytjgkblgilnfpfaa
open Go.RowKit

set_option maxHeartbeats 1000000 in
theorem gap_any (va vb : Value) (r c : List Int) (k : Nat) (w : World) (ha : InRow w va r) (hb : InRow w vb c) (h : sumsOk r c = true) (hk : k ≤ c.length) :
    Calls Try.prog 108 #[va, vb, .int .i64 k] w fun e w' => e = .returned (.int .i64 (((conjL r c.length).take k).sum - ((sortD c).take k).sum)) ∧ Below w.heap.size w w' := by
  obtain ⟨hr, hc, hrb, hcb, -⟩ := sumsOk_yes h
  have HA := hide ha; have HB := hide hb
  have HCJ := hide (conj_yes (l := r) hc hr.2 hrb)
  have HS1 := hide (small_perm (sortD_perm c) (small_of (m := r.length) hc.2 (by omega) hcb))
  have HS2 := hide (small_conj (n := c.length) hr.2 hc.2)
  have HL1 := hide (sortD_len c)
  have HL2 : Hid ((conjL r c.length).length = c.length) := hide (by rw [conjL, tabL_len])
  have HC5 := hide hc
  obtain ⟨b, cb, rfl, hmb, -⟩ := hb
  unfold maxLen at hmb
  obtain ⟨C, hC⟩ : ∃ C, C = c.length := ⟨_, rfl⟩
  have HC := hide hC
  rw [← hC] at HB HCJ HS2 HL1 HL2 HC5 hmb hk ⊢
  have hs1 := small_sum HS1.out k
  have hs2 := small_sum HS2.out k
  have HT1 := hide (small_take HS1.out k); have HT2 := hide (small_take HS2.out k)
  obtain ⟨X, hX⟩ : ∃ X, X = ((conjL r C).take k).sum := ⟨_, rfl⟩
  obtain ⟨Y, hY⟩ : ∃ Y, Y = ((sortD c).take k).sum := ⟨_, rfl⟩
  have HX := hide hX; have HY := hide hY
  rw [← hX] at hs2 ⊢
  rw [← hY] at hs1 ⊢
  obtain ⟨y1, y2⟩ := hs1
  obtain ⟨x1, x2⟩ := hs2
  clear ha h hr hc hrb hcb hC hX hY
  go_enter Try.func108, Try.ntmps108
  go_wp2_with fail
  refine (specConj_any va r (C : Int) _ HA.out).mono ?_
  rw [HCJ.out]
  rintro e w1 ⟨u1, rfl, ho, hb⟩
  obtain ⟨g1, c1, rfl, h1, h2, h3, -⟩ := rowAt_own ho (by rw [HL2.out]; exact HC5.out.1)
  have HR1 := hide (rowAt_take (rowAt_own ho (by rw [HL2.out]; exact HC5.out.1)) (show k ≤ (conjL r C).length by rw [HL2.out]; exact hk))
  have HB1 := hide hb
  rw [HL2.out] at h1 ⊢
  unfold maxLen at h2
  clear ho hb
  go_wp2_with fail
  refine (l03Total_any _ _ _ HR1.out HT2.out).mono ?_
  rw [← HX.out]
  rintro e w' ⟨rfl, rfl⟩
  go_wp2_with fail
  refine (specSortedDown_any _ c _ (inRow_below HB.out HB1.out) (by have := HC5.out; have := HC.out; omega)).mono ?_
  rintro e w2 ⟨u2, rfl, ho, hb⟩
  obtain ⟨g2, c2, rfl, h4, h5, h6, -⟩ := rowAt_own ho (by rw [HL1.out]; exact HC5.out.1)
  have HR2 := hide (rowAt_take (rowAt_own ho (by rw [HL1.out]; exact HC5.out.1)) (show k ≤ (sortD c).length by rw [HL1.out]; exact hk))
  have HB2 := hide (HB1.out.trans (hb.mono HB1.out.size))
  rw [HL1.out] at h4 ⊢
  unfold maxLen at h5
  clear ho hb
  go_wp2_with fail
  refine (l03Total_any _ _ _ HR2.out HT1.out).mono ?_
  rw [← HY.out]
  rintro e w' ⟨rfl, rfl⟩
  go_wp2
  go_ret
  exact ⟨rfl, HB2.out⟩

theorem boundsL_gap {r c : List Int} {i : Nat} (h : i < (boundsL r c).length) : ((conjL r c.length).take (i + 1)).sum - ((sortD c).take (i + 1)).sum = (boundsL r c)[i].2 - (boundsL r c)[i].1 := by
  have : (boundsL r c)[i] = _ := tabB_at h
  rw [this]
set_option maxHeartbeats 1000000 in
theorem specWorst_any (va vb : Value) (r c : List Int) (w : World) (ha : InRow w va r) (hb : InRow w vb c) :
    Calls Try.prog 87 #[va, vb] w fun e w' => e = .returned (.int .i64 (worstOf r c)) ∧ Below w.heap.size w w' := by
  have HA := hide ha; have HB := hide hb
  clear ha
  cases h : sumsOk r c with
  | false =>
    rw [worstOf, if_neg (by rw [h]; decide)]
    have H := hide h
    clear h hb
    go_enter Try.func87, Try.ntmps87
    go_wp2_with ((with_reducible refine (specSumsOk_any va vb r c _ HA.out HB.out).mono ?_); rw [H.out]; rintro e w1 ⟨rfl, b1⟩; have B1 := hide b1; clear b1)
    go_ret
    exact ⟨rfl, B1.out⟩
  | true =>
    rw [worstOf, if_pos h]
    have H := hide h
    have HBL := hide (boundsL_len r c)
    have HGAP := hide fun i hi => boundsL_gap (r := r) (c := c) (i := i) hi
    have HC5 := hide (sumsOk_yes h).2.1
    have HCALL := hide fun (k : Nat) (hk : k ≤ c.length) (w : World) (ha : InRow w va r) (hb : InRow w vb c) => gap_any va vb r c k w ha hb h hk
    obtain ⟨b, cb, rfl, hmb, -⟩ := hb
    unfold maxLen at hmb
    obtain ⟨C, hC⟩ : ∃ C, C = c.length := ⟨_, rfl⟩
    rw [← hC] at HB HBL HC5 HCALL hmb HGAP ⊢
    obtain ⟨bs, hbs⟩ : ∃ bs, bs = boundsL r c := ⟨_, rfl⟩
    rw [← hbs] at HBL HGAP ⊢
    obtain ⟨hc1, hc2⟩ := HC5.out
    clear h hC hbs
    go_enter Try.func87, Try.ntmps87
    go_wp2_with ((with_reducible refine (specSumsOk_any va _ r c _ HA.out HB.out).mono ?_); rw [H.out]; rintro e w1 ⟨rfl, b1⟩; have B1 := hide b1; clear b1)
    go_loopw [5] (fun i wr => ∃ k : Nat, k ≤ C ∧ i = .int .i64 ((k : Int) + 1) ∧ firstB bs 0 = firstB (bs.drop k) k ∧ Below w.heap.size w wr) (fun i _ => (C + 1 - intOf i).toNat)
    case atStart => exact ⟨0, Nat.zero_le _, rfl, rfl, B1.out⟩
    case round =>
      clear B1
      obtain ⟨k, hk, rfl, hf, hb⟩ := hrel
      have HF := hide hf; have B2 := hide hb
      clear hf hb
      by_cases hlt : k < C
      · have hk' : k < bs.length := by rw [HBL.out]; exact hlt
        have HD := hide (firstB_drop hk')
        have HG := hide (HGAP.out k hk')
        have HCL := hide (HCALL.out (k + 1) (by omega))
        rw [HG.out] at HCL
        obtain ⟨z, hz⟩ : ∃ z, z = bs[k].2 - bs[k].1 := ⟨_, rfl⟩
        rw [← hz] at HD HCL
        clear hz HG
        by_cases hbr : z < 0
        · have HR : Hid (firstB bs 0 = k) := hide (by rw [HF.out, HD.out, if_pos hbr])
          go_wp2_with (go_at_call 108; refine (HCL.out _ (inRow_below HA.out B2.out) (inRow_below HB.out B2.out)).mono ?_; rintro e w3 ⟨rfl, b3⟩; have B3 := hide (B2.out.trans (b3.mono B2.out.size)); clear b3)
          go_ret
          exact ⟨ret_int (by rw [HR.out]), B3.out⟩
        · have HR : Hid (firstB bs 0 = firstB (bs.drop (k + 1)) ((k + 1 : Nat) : Int)) := hide (by rw [HF.out, HD.out, if_neg hbr])
          go_wp2_with (go_at_call 108; refine (HCL.out _ (inRow_below HA.out B2.out) (inRow_below HB.out B2.out)).mono ?_; rintro e w3 ⟨rfl, b3⟩; have B3 := hide (B2.out.trans (b3.mono B2.out.size)); clear b3)
          go_roundw
          case rel => exact ⟨k + 1, by omega, by go_num, HR.out, B3.out⟩
          case measure => simp [intOf]; omega
      · have HR : Hid (firstB bs 0 = -1) := hide (by rw [HF.out, List.drop_of_length_le (by have := HBL.out; omega)]; rfl)
        go_wp2
        go_ret
        exact ⟨ret_int (by rw [HR.out]; rfl), B2.out⟩
set_option maxHeartbeats 400000 in
theorem specExists_any (va vb : Value) (r c : List Int) (w : World) (ha : InRow w va r) (hb : InRow w vb c) :
    Calls Try.prog 50 #[va, vb] w fun e w' => e = .returned (.bool (existsOf r c)) ∧ Below w.heap.size w w' := by
  have HA := hide ha; have HB := hide hb
  clear ha hb
  cases h : sumsOk r c with
  | false =>
    rw [existsOf, h]
    have H := hide h
    clear h
    go_enter Try.func50, Try.ntmps50
    go_wp2_with ((with_reducible refine (specSumsOk_any va vb r c _ HA.out HB.out).mono ?_); rw [H.out]; rintro e w1 ⟨rfl, b1⟩; have B1 := hide b1; clear b1)
    go_ret
    exact ⟨rfl, B1.out⟩
  | true =>
    rw [existsOf, h]
    have H := hide h
    obtain ⟨F, hF⟩ : ∃ F, F = worstOf r c := ⟨_, rfl⟩
    have HF := hide hF
    rw [← hF]
    clear h hF
    go_enter Try.func50, Try.ntmps50
    go_wp2_with (first | ((with_reducible refine (specSumsOk_any va vb r c _ HA.out HB.out).mono ?_); rw [H.out]; rintro e w1 ⟨rfl, b1⟩; have B1 := hide b1; clear b1) | ((with_reducible refine (specWorst_any va vb r c _ (inRow_below HA.out B1.out) (inRow_below HB.out B1.out)).mono ?_); rw [← HF.out]; rintro e w2 ⟨rfl, b2⟩; have B2 := hide (B1.out.trans (b2.mono B1.out.size)); clear b2))
    go_ret
    exact ⟨ret_bool (by by_cases e : F = 0 <;> simp [e]), B2.out⟩

end Go.Proofs.Ytjgkblgilnfpfaa
/-
  BuildImage of the model.
-/
namespace Go.Proofs.Ytjgkblgilnfpfaa
open Go.RowKit

theorem existsOf_sums {r c : List Int} (h : existsOf r c = true) : sumsOk r c = true := by
  rw [existsOf, Bool.and_eq_true] at h; exact h.1
theorem noBad_at {m : Int} {r : List Int} (h : r.any (badB m) = false) {k : Nat} (hk : k < r.length) : 0 ≤ r[k] ∧ r[k] ≤ m := by
  rw [List.any_eq_false] at h
  have := h _ (List.getElem_mem hk)
  simp only [badB, Bool.or_eq_true, decide_eq_true_eq, not_or] at this
  omega
theorem mid_start {r c : List Int} (h : sumsOk r c = true) : Mid100 0 c := by
  obtain ⟨hr, hc, -, hcb, -⟩ := sumsOk_yes h
  refine ⟨hc.2, fun x hx => ?_⟩
  rw [List.getD_eq_getElem?_getD, List.getElem?_eq_getElem hx, Option.getD_some]
  have := noBad_at hcb hx
  omega
theorem mid_sub {m : Int} {c : List Int} {n : Nat} (h : Mid100 m c) : Mid100 (m + 1) (subL c (topRow c n)) := by
  obtain ⟨h1, h2⟩ := h
  refine ⟨by rw [subL_len]; exact h1, fun x hx => ?_⟩
  rw [subL_len] at hx
  rw [subL_top, tabL_getD hx]
  have := h2 x hx
  rcases top01 c n x with e | e <;> rw [e] <;> omega
theorem mid_mono {m m' : Int} {c : List Int} (h : Mid100 m c) (hm : m ≤ m') : Mid100 m' c := ⟨h.1, fun x hx => by have := h.2 x hx; omega⟩
theorem greedy_step {r : List Int} {k : Nat} (hk : k < r.length) {s : Nat} (hs : r[k] = s) (l : List Int) : imgL greedyCh (r.drop k) l = topRow l s :: imgL greedyCh (r.drop (k + 1)) (subL l (topRow l s)) := by
  rw [List.drop_eq_getElem_cons hk, imgL, greedyCh, List.headD_cons, hs]; rfl

end Go.Proofs.Ytjgkblgilnfpfaa
