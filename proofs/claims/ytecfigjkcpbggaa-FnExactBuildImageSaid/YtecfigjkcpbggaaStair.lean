/-
  StaircaseOf, of the model and of the program.
-/
import Derived.Test.YtecfigjkcpbggaaConj
import Derived.Test.YtecfigjkcpbggaaSpecE
namespace Go.Proofs.Ytecfigjkcpbggaa
open Go.RowKit

/-- The row that begins with s black cells. -/
def begF (s : Int) (x : Nat) : Int := if (x : Int) < s then 1 else 0
def stairF (r : List Int) (y : Nat) : Nat → Int := begF (r.getD y 0)
/-- What StaircaseOf returns. -/
def stairRes (r : List Int) (n : Int) : List (List Int) := if conjOk r n = true then mkM r.length n.toNat (stairF r) else []
theorem conj_nil_iff (r : List Int) (n : Int) : conjRes r n = [] ↔ conjOk r n = false := by
  unfold conjRes
  cases h : conjOk r n with
  | true =>
    rw [if_pos rfl]
    have h1 : 1 ≤ n := by unfold conjOk at h; simp only [Bool.and_eq_true, decide_eq_true_eq] at h; exact h.1.1
    constructor
    · intro e; have := congrArg List.length e; rw [conjL, tabL_len] at this; simp at this; omega
    · intro e; cases e
  | false => rw [if_neg (by decide)]; simp
theorem conjOk_yes {r : List Int} {n : Int} (h : conjOk r n = true) : (1 ≤ n ∧ n ≤ 5) ∧ r.length ≤ 5 ∧ ∀ y, y < r.length → 0 ≤ r.getD y 0 ∧ r.getD y 0 ≤ n := by
  unfold conjOk at h
  simp only [Bool.and_eq_true, decide_eq_true_eq, Bool.not_eq_true'] at h
  obtain ⟨h1, h2, h3⟩ := h
  refine ⟨h1, h2, fun y hy => ?_⟩
  rw [List.getD_eq_getElem?_getD, List.getElem?_eq_getElem hy, Option.getD_some]
  rw [List.any_eq_false] at h3
  have := h3 _ (List.getElem_mem hy)
  simp only [badB, Bool.or_eq_true, decide_eq_true_eq, not_or] at this
  omega

set_option maxHeartbeats 400000 in
theorem begin_any (s : Int) (C : Nat) (w : World) (h0 : 0 ≤ s) (h1 : s ≤ C) (hC : C ≤ 5) :
    Calls Try.prog 47 #[.int .i64 s, .int .i64 C] w (IntsRes (tabL C (begF s)) w) := by
  go_enter Try.func47, Try.ntmps47
  go_wp2_with (at_make; refine wpList_new w.heap.size C (.int .i64 0) rfl _ _ rfl Try.underlying22 Try.infoInt rfl (by decide) rfl rfl (by omega) (Nat.le_refl _) ?_; intro w1 hown1 hb1 hg1)
  have HO := hide hown1; have HB := hide hb1
  clear hown1 hb1 hg1
  go_wp2
  go_loopw [10] (fun i w' => ∃ k : Nat, (k : Int) ≤ s ∧ i = .int .i64 k ∧ w'.ownsRow w.heap.size 3 1 (.slice (some ⟨w.heap.size, 0, none⟩) C C) C (ints (tabL C (begF k))) ∧ Below w.heap.size w w') (fun i _ => (s - intOf i).toNat)
  case atStart => exact ⟨0, h0, rfl, by rw [tabL_zero] at HO; rw [show tabL C (begF ((0 : Nat) : Int)) = tabL C (fun _ => 0) from tabL_congr fun i _ => by rw [begF, if_neg (by omega)]]; exact HO.out, HB.out⟩
  case round =>
    clear HO HB
    obtain ⟨k, hk, rfl, hown, hb⟩ := hrel
    have HO := hide hown; have HB := hide hb
    clear hown hb
    by_cases hlt : (k : Int) < s
    · have hkC : k < C := by omega
      have hc1 := cell_held HO.out hkC
      rw [tabL_held hkC, begF, if_neg (by omega)] at hc1
      have hf := HO.out.frozenAt k
      have HS := HO.out.stored k (.int .i64 1)
      rw [ints_set, tabL_set] at HS
      have e2 : (tabL C fun t => if t = k then 1 else begF k t) = tabL C (begF ((k + 1 : Nat) : Int)) := tabL_congr fun i _ => by
        unfold begF
        by_cases e : i = k
        · subst e; rw [if_pos rfl, if_pos (by omega)]
        · rw [if_neg e]
          by_cases e' : (i : Int) < (k : Int)
          · rw [if_pos e', if_pos (by omega)]
          · rw [if_neg e', if_neg (by omega)]
      rw [e2] at HS
      have HS := hide HS
      clear e2
      go_wp2
      go_roundw
      case rel => exact ⟨k + 1, by omega, by go_num, HS.out.1, HB.out.setCell (Nat.le_refl _) _⟩
      case measure => simp [intOf]; omega
    · have e3 : (k : Int) = s := by omega
      rw [e3] at HO
      go_wp2
      go_ret
      exact ⟨_, rfl, by rw [tabL_len]; exact HO.out, HB.out⟩

theorem intsNil_nil {w w' : World} {e : Ending} (h : IntsNil [] w e w') : e = .returned (.slice none 0 0) ∧ Below w.heap.size w w' := by
  obtain ⟨⟨u, -, -, hb⟩, hn⟩ := h
  exact ⟨hn rfl, hb⟩
theorem intsNil_some {l : List Int} {w w' : World} {e : Ending} (h : IntsNil l w e w') (hl : l ≠ []) : ∃ g n c, e = .returned (.slice (some ⟨g, 0, none⟩) n c) ∧ Below w.heap.size w w' := by
  obtain ⟨⟨u, rfl, ho, hb⟩, -⟩ := h
  obtain ⟨gu, cu, rfl, -⟩ := own_some ho (List.length_pos_iff.2 hl)
  exact ⟨_, _, _, rfl, hb⟩
set_option maxHeartbeats 400000 in
theorem implStair_no (v : Value) (r : List Int) (n : Int) (w : World) (hin : InRow w v r) (h : conjOk r n = false) :
    Calls Try.prog 25 #[v, .int .i64 n] w (MatRes [] w) := by
  have HI := hide hin
  have HE := hide ((conj_nil_iff r n).2 h)
  obtain ⟨a, c, rfl, hm, -⟩ := hin
  unfold maxLen at hm
  obtain ⟨R, hRR⟩ : ∃ R, R = r.length := ⟨_, rfl⟩
  rw [← hRR] at HI hm ⊢
  clear h hRR
  have heqn := fun (w : World) (a : Option Addr) (n c : Nat) => Lib.run_eql_slice_nil (P := Try.prog) w 22 3 a n c 0 0 Try.underlying22
  go_enter Try.func25, Try.ntmps25
  go_wp2_with ((with_reducible refine (implConj_nil _ r n _ HI.out).mono ?_); rw [HE.out]; intro e w1 hi; obtain ⟨rfl, hb⟩ := intsNil_nil hi; clear hi; have HB := hide hb; clear hb)
  go_ret
  exact matRes_nil HB.out
set_option maxHeartbeats 1000000 in
theorem implStair_yes (v : Value) (r : List Int) (C : Nat) (w : World) (hin : InRow w v r) (h : conjOk r C = true) :
    Calls Try.prog 25 #[v, .int .i64 C] w (MatRes (mkM r.length C (stairF r)) w) := by
  have HI := hide hin
  obtain ⟨hC, hR, hx⟩ := conjOk_yes h
  have HX := hide hx
  have HE : Hid (conjRes r C ≠ []) := hide (by rw [Ne, conj_nil_iff, h]; decide)
  obtain ⟨a, c, rfl, hm, hp⟩ := hin
  unfold maxLen at hm
  have HP := hide fun h : r.length ≠ 0 => hp.resolve_left h
  obtain ⟨R, hRR⟩ : ∃ R, R = r.length := ⟨_, rfl⟩
  have HR := hide hRR
  rw [← hRR] at HI hm hR ⊢
  obtain ⟨hC1, hC2⟩ := hC
  clear hp hRR hx h
  have heqn := fun (w : World) (a : Option Addr) (n c : Nat) => Lib.run_eql_slice_nil (P := Try.prog) w 22 3 a n c 0 0 Try.underlying22
  go_enter Try.func25, Try.ntmps25
  go_wp2_with ((with_reducible refine (implConj_nil _ r C _ HI.out).mono ?_); intro e w1 hi; obtain ⟨gu, nu, cu, rfl, hb⟩ := intsNil_some hi HE.out; clear hi; have HB := hide hb; clear hb)
  go_loopw [5, 14] (fun o i w' => ∃ (y : Nat) (u : Value), y ≤ R ∧ i = .int .i64 y ∧ u = o ∧ OwnMat w' w.heap.size w'.heap.size u (mkM y C (stairF r)) ∧ Below w.heap.size w w') (fun _ i _ => R - (intOf i).toNat)
  case atStart => exact ⟨0, _, by omega, rfl, rfl, ownMat_nil _ _ _, HB.out⟩
  case round =>
    clear HB
    obtain ⟨y, u, hy, rfl, rfl, hown, hb⟩ := hrel
    have HO := hide hown; have HB := hide hb
    clear hown hb
    by_cases hlt : y < R
    · have hyI : (y : Int) < R := by omega
      have hsz := HB.out.size
      have hy' : y < r.length := by rw [← HR.out]; exact hlt
      obtain ⟨g, o, rfl, hg, hc⟩ := HP.out (by omega)
      have hxc := below_cell HB.out hg (hc y hy')
      have hxr := HX.out y hy'
      have HST : Hid (stairF r y = begF r[y]) := hide (by rw [stairF, List.getD_eq_getElem?_getD, List.getElem?_eq_getElem hy', Option.getD_some])
      rw [List.getD_eq_getElem?_getD, List.getElem?_eq_getElem hy', Option.getD_some] at hxr
      obtain ⟨s, hs⟩ : ∃ s, s = r[y] := ⟨_, rfl⟩
      rw [← hs] at hxc hxr HST
      obtain ⟨hs0, hs1⟩ := hxr
      clear hs hc
      go_wp2_with (first | ((with_reducible refine (begin_any s C _ hs0 hs1 (by omega)).mono ?_); rintro e w2 ⟨u2, rfl, hu2, hb2⟩; rw [tabL_len] at hu2; obtain ⟨ua, uc, rfl⟩ := own_slice hu2; have HU := hide hu2; have O2 := hide (ownMat_below HO.out hb2); have B2 := hide (HB.out.trans (hb2.mono hsz)); have hs2 := hb2.size; clear hu2 hb2; obtain ⟨vs, hv, hvh, hvr, hva⟩ := O2.out; have hvl := mkM_len y C (stairF r); rw [hvl] at hv; have HV := hide hv; have HVR := hide hvr; have HVA := hide hva; clear hv hvh hvr hva hvl) | (at_builtin; refine wpList_push HV.out (.slice ua C uc) (.slice none 0 0) rfl _ _ rfl Try.underlying23 Try.infoInts rfl (by decide) rfl rfl rfl (by omega) (by omega) ?_; intro v' w6 hown1 hb1 hg1))
      go_roundw
      case rel =>
        have hs6 := hb1.size
        have hp := ownMat_push (r := rowF C (stairF r y)) (hi' := w6.heap.size) HVR.out HVA.out (by rw [mkM_len]; exact HV.out) (by rw [rowF_len, HST.out]; exact HU.out) hsz (by omega) (by omega) hg1 (by rw [mkM_len]; exact hown1) (fun k e => (hown1.lt k e).2)
        rw [← mkM_succ] at hp
        exact ⟨y + 1, _, by omega, by go_num, rfl, hp, B2.out.trans (hb1.mono (by omega))⟩
      case measure => simp [intOf]; omega
    · obtain rfl : y = R := by omega
      go_wp2
      go_ret
      exact ⟨_, rfl, HO.out, HB.out⟩
theorem implStair_any (v : Value) (r : List Int) (n : Int) (w : World) (hin : InRow w v r) :
    Calls Try.prog 25 #[v, .int .i64 n] w (MatRes (stairRes r n) w) := by
  unfold stairRes
  cases h : conjOk r n with
  | true =>
    obtain ⟨C, rfl⟩ : ∃ C : Nat, n = C := ⟨n.toNat, by have := (conjOk_yes h).1; omega⟩
    rw [if_pos rfl]; exact implStair_yes v r C w hin h
  | false => rw [if_neg (by decide)]; exact implStair_no v r n w hin h

set_option maxHeartbeats 400000 in
theorem specStair_no (v : Value) (r : List Int) (n : Int) (w : World) (hin : InRow w v r) (h : conjOk r n = false) :
    Calls Try.prog 24 #[v, .int .i64 n] w (MatRes [] w) := by
  have HI := hide hin
  have HE := hide ((conj_nil_iff r n).2 h)
  obtain ⟨a, c, rfl, hm, -⟩ := hin
  unfold maxLen at hm
  obtain ⟨R, hRR⟩ : ∃ R, R = r.length := ⟨_, rfl⟩
  rw [← hRR] at HI hm ⊢
  clear h hRR
  go_enter Try.func24, Try.ntmps24
  go_wp2_with ((with_reducible refine (specConj_any _ r n _ HI.out).mono ?_); rw [HE.out]; rintro e w1 ⟨u, rfl, ho, hb⟩; obtain ⟨ua, uc, rfl⟩ := own_slice ho; have HB := hide hb; clear ho hb)
  go_ret
  exact matRes_nil HB.out
set_option maxHeartbeats 400000 in
theorem specStair_zero (v : Value) (n : Int) (w : World) (hin : InRow w v []) :
    Calls Try.prog 24 #[v, .int .i64 n] w (MatRes [] w) := by
  have HI := hide hin
  obtain ⟨a, c, rfl, -, -⟩ := hin
  simp only [List.length_nil] at HI ⊢
  obtain ⟨L, hL⟩ : ∃ L, L = conjRes [] n := ⟨_, rfl⟩
  have HL := hide hL
  have hl : L.length ≤ 5 := by
    rw [hL]; unfold conjRes
    cases h : conjOk [] n with
    | true => rw [if_pos rfl, conjL, tabL_len]; have := (conjOk_yes h).1; omega
    | false => rw [if_neg (by decide)]; simp
  clear hL
  go_enter Try.func24, Try.ntmps24
  obtain ⟨n0, hn0⟩ : ∃ n0, n0 = L.length := ⟨_, rfl⟩
  rw [← hn0] at hl
  have HN0 := hide hn0
  clear hn0
  by_cases h0 : n0 = 0
  · have q1 : ((n0 : Int) == 0) = true := by simp; omega
    go_wp2_with ((with_reducible refine (specConj_any _ [] n _ HI.out).mono ?_); rw [← HL.out]; rintro e w1 ⟨u, rfl, ho, hb⟩; rw [← HN0.out] at ho; obtain ⟨ua, uc, rfl⟩ := own_slice ho; have HB := hide hb; clear ho hb)
    go_ret
    exact matRes_nil HB.out
  · have q1 : ((n0 : Int) == 0) = false := by simp; omega
    go_wp2_with ((with_reducible refine (specConj_any _ [] n _ HI.out).mono ?_); rw [← HL.out]; rintro e w1 ⟨u, rfl, ho, hb⟩; rw [← HN0.out] at ho; obtain ⟨ua, uc, rfl⟩ := own_slice ho; have HB := hide hb; clear ho hb)
    go_ret
    exact matRes_nil HB.out
set_option maxHeartbeats 2000000 in
theorem specStair_yes (v : Value) (r : List Int) (C : Nat) (w : World) (hin : InRow w v r) (h : conjOk r C = true) (hr0 : 0 < r.length) :
    Calls Try.prog 24 #[v, .int .i64 C] w (MatRes (mkM r.length C (stairF r)) w) := by
  have HI := hide hin
  obtain ⟨hC, hR, hx⟩ := conjOk_yes h
  have HX := hide hx
  have HEE : Hid (conjRes r C = conjL r C) := hide (by rw [conjRes, if_pos h]; rfl)
  obtain ⟨a, c, rfl, hm, hp⟩ := hin
  unfold maxLen at hm
  obtain ⟨g, o, rfl, hg, hc⟩ := hp.resolve_left (by omega)
  have HG := hide hg; have HCC := hide hc
  obtain ⟨R, hRR⟩ : ∃ R, R = r.length := ⟨_, rfl⟩
  have HR := hide hRR
  rw [← hRR] at HI hm hR hr0 ⊢
  obtain ⟨hC1, hC2⟩ := hC
  have q1 : ((C : Int) == 0) = false := by simp; omega
  have q2 : ((R : Int) == 0) = false := by simp; omega
  clear hp hRR hx h hc hg
  go_enter Try.func24, Try.ntmps24
  go_wp2_with (first | ((with_reducible refine (specConj_any _ r C _ HI.out).mono ?_); rw [HEE.out]; rintro e w1 ⟨u, rfl, ho, hb⟩; rw [conjL, tabL_len] at ho; obtain ⟨ua, uc, rfl⟩ := own_slice ho; have HB := hide hb; clear ho hb) | ((with_reducible refine (l02Empty_any R C _ hR (by omega)).mono ?_); rintro e w2 ⟨u, rfl, ho, hb⟩; have HB2 := hide (HB.out.trans (hb.mono HB.out.size)); have HO := hide (ownMat_mono ho HB.out.size (Nat.le_refl _)); clear ho hb))
  obtain ⟨gm, cm, rfl⟩ := ownMat_some HO.out (by rw [mkM_len]; omega)
  rw [mkM_len] at *
  go_wp2
  go_loopw [25] (fun i w' => ∃ y : Nat, y ≤ R ∧ i = .int .i64 y ∧ OwnMat w' w.heap.size w'.heap.size (.slice (some ⟨gm, 0, none⟩) R cm) (mkM R C fun a b => if a < y then stairF r a b else 0) ∧ Below w.heap.size w w') (fun i _ => R - (intOf i).toNat)
  case atStart =>
    refine ⟨0, by omega, rfl, ?_, HB2.out⟩
    rw [show mkM R C (fun a b => if a < 0 then stairF r a b else 0) = mkM R C zeroM from mkM_congr fun a b _ _ => by rw [if_neg (Nat.not_lt_zero _)]; rfl]
    exact HO.out
  case round =>
    clear HO HB HB2
    obtain ⟨y, hy, rfl, hown, hb⟩ := hrel
    have HO := hide hown; have HB := hide hb
    clear hown hb
    by_cases hlt : y < R
    · have hyI : (y : Int) < R := by omega
      have hy' : y < r.length := by rw [← HR.out]; exact hlt
      have hxc := below_cell HB.out HG.out (HCC.out y hy')
      have hxr := HX.out y hy'
      have HST : Hid (stairF r y = begF r[y]) := hide (by rw [stairF, List.getD_eq_getElem?_getD, List.getElem?_eq_getElem hy', Option.getD_some])
      rw [List.getD_eq_getElem?_getD, List.getElem?_eq_getElem hy', Option.getD_some] at hxr
      obtain ⟨s, hs⟩ : ∃ s, s = r[y] := ⟨_, rfl⟩
      rw [← hs] at hxc hxr HST
      obtain ⟨hs0, hs1⟩ := hxr
      clear hs
      go_wp2
      go_loopw [8] (fun i w' => ∃ x : Nat, (x : Int) ≤ s ∧ i = .int .i64 x ∧ OwnMat w' w.heap.size w'.heap.size (.slice (some ⟨gm, 0, none⟩) R cm) (mkM R C fun a b => if a < y then stairF r a b else if a = y then begF x b else 0) ∧ Below w.heap.size w w') (fun i _ => (s - intOf i).toNat)
      case atStart =>
        refine ⟨0, hs0, rfl, ?_, HB.out⟩
        rw [show mkM R C (fun a b => if a < y then stairF r a b else if a = y then begF ((0 : Nat) : Int) b else 0) = mkM R C (fun a b => if a < y then stairF r a b else 0) from mkM_congr fun a b _ _ => by
          by_cases e : a < y
          · rw [if_pos e, if_pos e]
          · rw [if_neg e, if_neg e]; unfold begF; rw [if_neg (show ¬ ((b : Int) < ((0 : Nat) : Int)) by omega)]; simp]
        exact HO.out
      case round =>
        clear HO HB
        obtain ⟨x, hx, rfl, hown, hb⟩ := hrel
        have HO := hide hown; have HB := hide hb
        clear hown hb
        by_cases hltx : (x : Int) < s
        · have hxC : x < C := by omega
          obtain ⟨gr, cr, hrow, hcl, hfr, hlo, hgh, hset⟩ := ownMat_cell HO.out y x hlt hxC
          have hset := hset 1
          rw [show (mkM R C fun a b => if a = y ∧ b = x then 1 else if a < y then stairF r a b else if a = y then begF (x : Int) b else 0) = mkM R C fun a b => if a < y then stairF r a b else if a = y then begF ((x + 1 : Nat) : Int) b else 0 from mkM_congr fun a b _ _ => by
            by_cases e : a < y
            · rw [if_pos e, if_pos e, if_neg (by omega)]
            · rw [if_neg e, if_neg e]
              by_cases ea : a = y
              · rw [if_pos ea, if_pos ea]
                unfold begF
                by_cases eb : b = x
                · rw [if_pos ⟨ea, eb⟩, if_pos (by omega)]
                · rw [if_neg (fun h => eb h.2)]
                  by_cases e' : (b : Int) < (x : Int)
                  · rw [if_pos e', if_pos (by omega)]
                  · rw [if_neg e', if_neg (by omega)]
              · rw [if_neg ea, if_neg ea, if_neg (fun h => ea h.1)]] at hset
          have HSET := hide hset
          clear hset
          go_wp2
          go_roundw
          case rel => exact ⟨x + 1, by omega, by go_num, ownMat_mono HSET.out (Nat.le_refl _) (by simp [World.setCell]), HB.out.setCell hlo _⟩
          case measure => simp [intOf]; omega
        · have e3 : (x : Int) = s := by omega
          rw [e3] at HO
          have HO2 : Hid (OwnMat wr w.heap.size wr.heap.size (.slice (some ⟨gm, 0, none⟩) R cm) (mkM R C fun a b => if a < y + 1 then stairF r a b else 0)) := hide (by
            rw [show (mkM R C fun a b => if a < y + 1 then stairF r a b else 0) = mkM R C fun a b => if a < y then stairF r a b else if a = y then begF s b else 0 from mkM_congr fun a b _ _ => by
              by_cases e : a < y
              · rw [if_pos e, if_pos (by omega)]
              · rw [if_neg e]
                by_cases ea : a = y
                · rw [if_pos (show a < y + 1 by omega), if_pos ea, ea, HST.out]
                · rw [if_neg ea, if_neg (by omega)]]
            exact HO.out)
          go_wp2
          go_roundw
          case rel => exact ⟨y + 1, by omega, by go_num, HO2.out, HB.out⟩
          case measure => simp [intOf]; omega
    · obtain rfl : y = R := by omega
      go_wp2
      go_ret
      refine ⟨_, rfl, ?_, HB.out⟩
      rw [show mkM y C (stairF r) = mkM y C (fun a b => if a < y then stairF r a b else 0) from mkM_congr fun a b ha _ => by rw [if_pos ha]]
      exact HO.out
theorem specStair_any (v : Value) (r : List Int) (n : Int) (w : World) (hin : InRow w v r) :
    Calls Try.prog 24 #[v, .int .i64 n] w (MatRes (stairRes r n) w) := by
  unfold stairRes
  cases h : conjOk r n with
  | true =>
    obtain ⟨C, rfl⟩ : ∃ C : Nat, n = C := ⟨n.toNat, by have := (conjOk_yes h).1; omega⟩
    rw [if_pos rfl]
    by_cases h0 : 0 < r.length
    · exact specStair_yes v r C w hin h h0
    · obtain rfl : r = [] := List.eq_nil_of_length_eq_zero (by omega)
      exact specStair_zero v C w hin
  | false => rw [if_neg (by decide)]; exact specStair_no v r n w hin h
end Go.Proofs.Ytecfigjkcpbggaa
