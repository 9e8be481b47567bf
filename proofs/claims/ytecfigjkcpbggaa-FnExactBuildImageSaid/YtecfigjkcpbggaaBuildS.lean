/-
  BuildImage of the model.
-/
import Derived.Test.YtecfigjkcpbggaaFill
import Derived.Test.YtecfigjkcpbggaaExistS
import Derived.Test.YtecfigjkcpbggaaMatR
namespace Go.Proofs.Ytecfigjkcpbggaa
open Go.RowKit

theorem existsOf_sums {r c : List Int} (h : existsOf r c = true) : sumsOk r c = true := by
  rw [existsOf, Bool.and_eq_true] at h; exact h.1
theorem noBad_at {m : Int} {r : List Int} (h : r.any (badB m) = false) {k : Nat} (hk : k < r.length) : 0 ≤ r[k] ∧ r[k] ≤ m := by
  rw [List.any_eq_false] at h
  have := h _ (List.getElem_mem hk)
  simp only [badB, Bool.or_eq_true, decide_eq_true_eq, not_or] at this
  omega
theorem mid_start {r c : List Int} (h : sumsOk r c = true) : Mid100 0 c := by
  obtain ⟨hr, hc, -, hcb, -⟩ := sumsOk_yes h
  refine ⟨hc.2, fun x hx => ?_⟩
  rw [List.getD_eq_getElem?_getD, List.getElem?_eq_getElem hx, Option.getD_some]
  have := noBad_at hcb hx
  omega
theorem mid_sub {m : Int} {c : List Int} {n : Nat} (h : Mid100 m c) : Mid100 (m + 1) (subL c (topRow c n)) := by
  obtain ⟨h1, h2⟩ := h
  refine ⟨by rw [subL_len]; exact h1, fun x hx => ?_⟩
  rw [subL_len] at hx
  rw [subL_top, tabL_getD hx]
  have := h2 x hx
  rcases top01 c n x with e | e <;> rw [e] <;> omega
theorem mid_mono {m m' : Int} {c : List Int} (h : Mid100 m c) (hm : m ≤ m') : Mid100 m' c := ⟨h.1, fun x hx => by have := h.2 x hx; omega⟩
theorem greedy_step {r : List Int} {k : Nat} (hk : k < r.length) {s : Nat} (hs : r[k] = s) (l : List Int) : imgL greedyCh (r.drop k) l = topRow l s :: imgL greedyCh (r.drop (k + 1)) (subL l (topRow l s)) := by
  rw [List.drop_eq_getElem_cons hk, imgL, greedyCh, List.headD_cons, hs]; rfl

set_option maxHeartbeats 400000 in
theorem specBuild_no (va vb : Value) (r c : List Int) (w : World) (ha : InRow w va r) (hb : InRow w vb c) (h : existsOf r c = false) :
    Calls Try.prog 8 #[va, vb] w (MatRes2 [] false w) := by
  have HA := hide ha; have HB := hide hb; have H := hide h
  clear ha hb h
  go_enter Try.func8, Try.ntmps8
  go_wp2_with ((with_reducible refine (specExists_any va vb r c _ HA.out HB.out).mono ?_); rw [H.out]; rintro e w1 ⟨rfl, b1⟩; have B1 := hide b1; clear b1)
  go_ret2
  exact matRes2_nil B1.out
set_option maxRecDepth 100000 in
set_option maxHeartbeats 4000000 in
theorem specBuild_yes (va vb : Value) (r c : List Int) (w : World) (ha : InRow w va r) (hb : InRow w vb c) (h : existsOf r c = true) :
    Calls Try.prog 8 #[va, vb] w (MatRes2 (imgL greedyCh r c) true w) := by
  have HA := hide ha; have HB := hide hb; have H := hide h
  obtain ⟨hr, hc, hrb, -, -⟩ := sumsOk_yes (existsOf_sums h)
  have HM0 := hide (mid_start (existsOf_sums h))
  have HRB := hide fun (k : Nat) (hk : k < r.length) => noBad_at hrb hk
  obtain ⟨xa, ca, rfl, hma, hpa⟩ := ha
  obtain ⟨xb, cb, rfl, hmb, hpb⟩ := hb
  obtain ⟨ga, oa, rfl, hga, hca⟩ := hpa.resolve_left (by omega)
  obtain ⟨gb, ob, rfl, hgb, hcb⟩ := hpb.resolve_left (by omega)
  have HCA := hide hca; have HGA := hide hga; have HCB := hide hcb; have HGB := hide hgb
  unfold maxLen at hma hmb
  obtain ⟨R, hRR⟩ : ∃ R, R = r.length := ⟨_, rfl⟩
  obtain ⟨C, hCC⟩ : ∃ C, C = c.length := ⟨_, rfl⟩
  have HR := hide hRR; have HC := hide hCC
  rw [← hRR] at HA hr hma ⊢
  rw [← hCC] at HB hc hmb HRB ⊢
  obtain ⟨hr1, hr5⟩ := hr
  obtain ⟨hc1, hc5⟩ := hc
  clear hpa hpb hca hcb hga hgb h hrb hRR hCC
  go_enter Try.func8, Try.ntmps8
  go_wp2_with fail
  refine (specExists_any _ _ r c _ HA.out HB.out).mono ?_
  rw [H.out]
  rintro e w1 ⟨rfl, b1⟩
  have B1 := hide b1
  clear b1
  have HSA : Hid (((w1.alloc (.cells #[] 22)).alloc (.cells #[] 3)).heap.size = w1.heap.size + 1 + 1) := hide (by simp)
  have HE : Hid (((w1.alloc (.cells #[] 22)).alloc (.cells #[] 3)).ownsRow (w1.heap.size + 1) 3 1 (.slice (some ⟨w1.heap.size + 1, 0, none⟩) 0 0) 0 []) := hide (by
    have := World.ownsRow_made (e := 3) (size := 1) (base := (w1.alloc (.cells #[] 22)).heap.size) (w1.alloc (.cells #[] 22)) #[] 0 (Nat.le_refl _) (Nat.zero_le _) rfl
    rwa [World.size_alloc] at this)
  have HB3 := hide ((B1.out.alloc B1.out.size (.cells #[] 22)).alloc (by rw [World.size_alloc]; have := B1.out.size; omega) (.cells #[] 3))
  have HE0 : Hid (OwnMat ((w1.alloc (.cells #[] 22)).alloc (.cells #[] 3)) w.heap.size (w1.heap.size + 1) (.slice (some ⟨w1.heap.size, 0, none⟩) 0 0) []) := hide ⟨[], own_base (own_below (World.ownsRow_made (e := 22) (size := 1) (base := w1.heap.size) w1 #[] 0 (Nat.le_refl _) (Nat.zero_le _) rfl) ((Below.refl _ _).alloc (Nat.le_refl _) _)) B1.out.size, (fun k e => by simp [Value.ownBlock] at e; subst e; omega), (fun i h => absurd h (Nat.not_lt_zero _)), fun i j _ h => absurd h (Nat.not_lt_zero _)⟩
  have HCC : Hid (∀ j, (h : j < c.length) → ((w1.alloc (.cells #[] 22)).alloc (.cells #[] 3)).cell? ⟨gb, ob + j, none⟩ = some (.int .i64 c[j])) := hide fun j h => below_cell HB3.out HGB.out (HCB.out j h)
  go_wp2_with (refine wpList_appendRow 19 rfl HE.out c gb ob cb (.int .i64 0) rfl _ _ rfl Try.underlying22 Try.infoInt rfl (by decide) rfl (by rw [← HC.out]; rfl) HCC.out (by rw [← HC.out]; omega) (by rw [HSA.out]; omega) ?_; intro u3 w3 hu3 hb3 hg3; rw [← HC.out, Nat.zero_add, List.nil_append] at hu3; obtain ⟨xl, xc, rfl⟩ := own_slice hu3)
  have hs3 := hb3.size
  rw [HSA.out] at hs3
  have HL0 := hide (own_base hu3 (show w.heap.size ≤ w1.heap.size + 1 by have := B1.out.size; omega))
  have HO0 := hide (ownMat_mono (ownMat_within HE0.out (within_grown (lo := w1.heap.size + 1) (hi := w1.heap.size + 1 + 1) hg3 fun k e => by simp [Value.ownBlock] at e; omega) (.inl (Nat.le_refl _))) (Nat.le_refl _) (show w1.heap.size + 1 ≤ w3.heap.size by omega))
  have HB4 := hide (HB3.out.trans (hb3.mono (by have := B1.out.size; omega)))
  clear hu3 hb3 hg3 hs3 HE HCC HE0 HB3 HSA
  go_loopw [6, 7, 22] (fun o lf i w' => ∃ (k : Nat) (u v : Value) (done : List (List Int)) (l : List Int), k ≤ R ∧ i = .int .i64 k ∧ u = o ∧ v = lf ∧ done.length = k ∧ l.length = C ∧ Mid100 k l ∧ done ++ imgL greedyCh (r.drop k) l = imgL greedyCh r c ∧
    OwnMat w' w.heap.size w'.heap.size u done ∧ w'.ownsRow w.heap.size 3 1 v C (ints l) ∧ Below w.heap.size w w') (fun _ _ i _ => R - (intOf i).toNat)
  case atStart => exact ⟨0, _, _, [], c, Nat.zero_le _, rfl, rfl, rfl, rfl, HC.out.symm, HM0.out, rfl, HO0.out, HL0.out, HB4.out⟩
  case round =>
    clear HO0 HL0 HB4
    obtain ⟨k, u, v, done, l, hk, rfl, rfl, rfl, hdl, hll, hmid, hdone, hown, hleft, hb⟩ := hrel
    have HO := hide hown; have HL := hide hleft; have HBB := hide hb; have HDL := hide hdl; have HLL := hide hll; have HMID := hide hmid; have HDN := hide hdone
    clear hown hleft hb hdl hll hmid hdone
    by_cases hlt : k < R
    · have hkr : k < r.length := by rw [← HR.out]; exact hlt
      have hsz := HBB.out.size
      have hx := below_cell HBB.out HGA.out (HCA.out k hkr)
      obtain ⟨s, hs⟩ : ∃ s : Nat, r[k] = (s : Int) := ⟨r[k].toNat, by have := (HRB.out k hkr).1; omega⟩
      have hsC : s ≤ C := by have := (HRB.out k hkr).2; omega
      have HSTEP := hide (greedy_step hkr hs l)
      rw [hs] at hx
      have hlin := inRow_own (r := l) (by rw [HLL.out]; exact HL.out)
      have hfill := l05Fill_any v l s wr hlin (by rw [HLL.out]; exact hc1) (by rw [HLL.out]; exact hsC) (mid_mono HMID.out (by omega))
      unfold FillRes at hfill
      rw [HLL.out] at hfill
      have HF := hide hfill
      clear hs hlin hfill
      go_wp2_with (first | (go_at_call 27; refine HF.out.mono ?_; rintro e w4 ⟨ur, ul, rfl, hur, hul, hb4⟩; obtain ⟨ra, rc, rfl⟩ := own_slice hur; have HU := hide hur; have HNL := hide hul; have O2 := hide (ownMat_below HO.out hb4); have B2 := hide (HBB.out.trans (hb4.mono hsz)); have hs4 := hb4.size; clear hur hul hb4; obtain ⟨vs, hv, hvh, hvr, hva⟩ := O2.out; rw [HDL.out] at hv; have HV := hide hv; have HVR := hide hvr; have HVA := hide hva; clear hv hvh hvr hva) | (at_builtin; refine wpList_push HV.out (.slice ra C rc) (.slice none 0 0) rfl _ _ rfl Try.underlying23 Try.infoInts rfl (by decide) rfl rfl rfl (by omega) (by omega) ?_; intro v' w6 hown1 hb1 hg1))
      go_roundw
      case rel =>
        have hs6 := hb1.size
        have hp := ownMat_push (r := topRow l s) (hi' := w6.heap.size) HVR.out HVA.out (by rw [HDL.out]; exact HV.out) (by rw [topRow_len, HLL.out]; exact HU.out) hsz (by omega) (by omega) hg1 (by rw [HDL.out]; exact hown1) (fun k e => (hown1.lt k e).2)
        refine ⟨k + 1, _, _, done ++ [topRow l s], subL l (topRow l s), by omega, by go_num, rfl, rfl, by rw [List.length_append, HDL.out]; rfl, by rw [subL_len, HLL.out], ?_, ?_, hp, ?_, B2.out.trans (hb1.mono (by omega))⟩
        · have := mid_sub (n := s) HMID.out
          exact mid_mono this (by omega)
        · rw [List.append_assoc, List.singleton_append, ← HSTEP.out]; exact HDN.out
        · exact (own_base HNL.out hsz).kept hg1 (own_types HNL.out HV.out (by decide))
      case measure => simp [intOf]; omega
    · obtain rfl : k = R := by omega
      have HFIN : Hid (done = imgL greedyCh r c) := hide (by
        have := HDN.out
        rw [List.drop_of_length_le (by rw [← HR.out]; exact Nat.le_refl _), imgL, List.append_nil] at this
        exact this)
      go_wp2
      go_ret2
      exact ⟨_, rfl, by rw [← HFIN.out]; exact HO.out, HBB.out⟩
theorem specBuild_any (va vb : Value) (r c : List Int) (w : World) (ha : InRow w va r) (hb : InRow w vb c) :
    Calls Try.prog 8 #[va, vb] w (MatRes2 (if existsOf r c = true then imgL greedyCh r c else []) (existsOf r c) w) := by
  cases h : existsOf r c with
  | true => rw [if_pos rfl]; exact specBuild_yes va vb r c w ha hb h
  | false => rw [if_neg (by decide)]; exact specBuild_no va vb r c w ha hb h
end Go.Proofs.Ytecfigjkcpbggaa
