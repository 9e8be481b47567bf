/-
  Texts of this claim, one behind the other: MskI, ConfR.
-/
import Derived.Test.YtjgkblgilnfpfaaPackO
import Derived.Test.YtjgkblgilnfpfaaPackL
import Derived.Test.YtjgkblgilnfpfaaPackM
/-
  All images that meet a mask: the program's iterator, MaskedImage and MaskedCount.
-/
namespace Go.Proofs.Ytjgkblgilnfpfaa
open Go.RowKit Go.Shelf
attribute [local go_sem] Oper.semAt_some

theorem meetsPred_any (u vk : Value) (row k : List Int) (q : Nat) (w : World) (hu : InRow w u row) (hk : InRow w vk k) (hq : w.cell? ⟨q, 0, none⟩ = some vk) :
    Calls Try.prog 74 #[u, .pointer (some ⟨q, 0, none⟩)] w fun e w' => e = .returned (.bool (!meetR row k)) ∧ Below w.heap.size w w' := by
  have HC := hide (rowMeets_any u vk row k w hu hk)
  obtain ⟨b, hb⟩ : ∃ b, b = meetR row k := ⟨_, rfl⟩
  rw [← hb] at HC ⊢
  obtain ⟨au, cu, rfl, -, -⟩ := hu
  obtain ⟨ac, cc, rfl, -, -⟩ := hk
  generalize k.length = K at *
  generalize row.length = R at *
  clear hb
  go_enter Try.func74, Try.ntmps74
  go_wp2_with (go_at_call 64; refine HC.out.mono ?_; rintro e w' ⟨rfl, rfl⟩)
  go_ret
  exact ⟨rfl, Below.refl _ _⟩
set_option maxHeartbeats 1000000 in
theorem chF_mask (k : List (List Int)) (vk : Value) (q n : Nat) (W : World) (hk : InMat W vk k) (hq : W.cell? ⟨q, 0, none⟩ = some vk) (hn : n ≤ k.length) (hk5 : k.length ≤ 5) : ChF 71 #[.pointer (some ⟨q, 0, none⟩)] (maskP k) n W := by
  intro vr vc a r c W' hb hr hc h1 hr5 hC1 hM
  have hl : (a :: r).length = r.length + 1 := rfl
  have hk' := inMat_below hk hb
  have hq' := below_cell hb (World.block_lt_of_cell? W _ hq) hq
  obtain ⟨ak, ck, rfl, hmk, hpk⟩ := hk'
  obtain ⟨gk, ok, rfl, hgk, hck⟩ := hpk.resolve_left (by omega)
  have hyk : k.length - (r.length + 1) < k.length := by omega
  obtain ⟨y, hy⟩ : ∃ y, y = k.length - (r.length + 1) := ⟨_, rfl⟩
  rw [← hy] at hyk
  have hsub : (k.length : Int) - ((a :: r).length : Int) = (y : Int) := by rw [hl]; omega
  obtain ⟨um, hx, hrm⟩ := hck y hyk
  obtain ⟨mk, hmk'⟩ : ∃ mk, mk = k[y] := ⟨_, rfl⟩
  have HMK := hide (show (fun row => !(!meetR row mk)) = maskP k r by
    funext row
    rw [Bool.not_not, maskP, ← hy, List.getD_eq_getElem?_getD, List.getElem?_eq_getElem hyk, Option.getD_some, hmk'])
  rw [← hmk'] at hrm
  obtain ⟨am, cm, rfl, hmm, hpm⟩ := hrm
  have HRM : Hid (InRow W' (.slice am mk.length cm) mk) := hide ⟨am, cm, rfl, hmm, hpm⟩
  have HFR := hide fun w' (hw : Below W'.heap.size W' w') => firstRows_any vr vc a r c w' (inRow_below hr hw) (inRow_below hc hw) hr5 hC1 hM
  obtain ⟨L, hL⟩ : ∃ L, L = firstRows a r c := ⟨_, rfl⟩
  rw [← hL] at HFR ⊢
  obtain ⟨ar, cr, rfl, hmr, -⟩ := hr
  obtain ⟨ac, cc, rfl, -, -⟩ := hc
  obtain ⟨K, hK⟩ : ∃ K, K = k.length := ⟨_, rfl⟩
  obtain ⟨N, hN⟩ : ∃ N, N = (a :: r).length := ⟨_, rfl⟩
  obtain ⟨C, hC⟩ : ∃ C, C = c.length := ⟨_, rfl⟩
  obtain ⟨M, hMM⟩ : ∃ M, M = mk.length := ⟨_, rfl⟩
  rw [← hK] at hq' hyk hsub hk5
  rw [← hN] at HFR hsub hr5 ⊢
  rw [← hC] at HFR hC1 ⊢
  rw [← hMM] at hx HRM
  have hyK : (y : Int) < (K : Int) := by omega
  clear hb hpk hck hpm hmk hL hK hN hC hMM hM hy hmk' hl h1 hmm hq hk
  go_enter Try.func71, Try.ntmps71
  go_wp2_with fail
  obtain ⟨W2, hW2⟩ : ∃ W2, W2 = W'.alloc (.cells #[.slice am M cm] 24) := ⟨_, rfl⟩
  rw [← hW2]
  have B2 := hide (show Below W'.heap.size W' W2 by rw [hW2]; exact (Below.refl _ W').alloc (Nat.le_refl _) _)
  have HQ2 := hide (show W2.cell? ⟨W'.heap.size, 0, none⟩ = some (.slice am M cm) by rw [hW2]; simp [World.cell?_alloc_new])
  have HS2 := hide (show W2.heap.size = W'.heap.size + 1 by rw [hW2]; simp)
  have HR2 := hide (inRow_below HRM.out B2.out)
  clear hW2
  refine (HFR.out _ B2.out).mono ?_
  rintro e W3 ⟨u, rfl, hm3, hb3⟩
  have HDEL : Hid (Calls Try.prog 72 #[u, .func (.func 74) #[] #[.pointer (some ⟨W'.heap.size, 0, none⟩)]] W3 (RowsRes W2.heap.size (L.filter (maskP k r)) W3)) := hide (by
    rw [← HMK.out]
    exact delRows_any u L 74 #[.pointer (some ⟨W'.heap.size, 0, none⟩)] (fun _ => True) (fun row => !meetR row mk) W2.heap.size W2 W3 (enters_of Try.func74 (by kernel_rfl) rfl) hm3 hb3.size (Nat.le_refl _) hb3 (fun _ _ => trivial)
      (fun row v w _ hw hr => meetsPred_any v (.slice am M cm) row mk W'.heap.size w hr (inRow_below HR2.out hw) (below_cell hw (by have := HS2.out; simp; omega) HQ2.out)))
  generalize L.filter (maskP k r) = X at *
  have B3 := hide hb3
  obtain ⟨vs, hv, -⟩ := hm3
  obtain ⟨au, cu, rfl⟩ := own_slice hv
  clear hv hb3
  go_wp2_with fail
  refine HDEL.out.mono ?_
  rintro e W4 ⟨v, rfl, hm4, hb4⟩
  have HM4 := hide (And.intro hm4 hb4)
  obtain ⟨vs4, hv4, -⟩ := hm4
  obtain ⟨av, cv, rfl⟩ := own_slice hv4
  clear hv4 hb4
  go_wp2
  go_ret
  have h2 := B2.out.size
  exact ⟨_, rfl, matT_base HM4.out.1 h2, B2.out.trans ((B3.out.trans HM4.out.2).mono h2)⟩
theorem imagesMeeting_any (vk va vb : Value) (k : List (List Int)) (r c : List Int) (w : World) (hk : InMat w vk k) (ha : RowC w va r) (hb : InRow w vb c) :
    Calls Try.prog 42 #[vk, va, vb] w fun e w' => e = .returned (.func (.func 101) #[] #[.pointer (some ⟨w.heap.size + 1, 0, none⟩), .pointer (some ⟨w.heap.size + 3, 0, none⟩), .pointer (some ⟨w.heap.size + 2, 0, none⟩)]) ∧
      w'.cell? ⟨w.heap.size, 0, none⟩ = some vk ∧ w'.cell? ⟨w.heap.size + 1, 0, none⟩ = some va ∧ w'.cell? ⟨w.heap.size + 2, 0, none⟩ = some vb ∧ w'.cell? ⟨w.heap.size + 3, 0, none⟩ = some (.func (.func 71) #[] #[.pointer (some ⟨w.heap.size, 0, none⟩)]) ∧ Below w.heap.size w w' ∧ w'.heap.size = w.heap.size + 4 := by
  have hbx := (Below.refl w.heap.size w).alloc (Nat.le_refl _) (.cells #[vk] 23)
  have HBX := hide hbx
  have HQ := hide (show (w.alloc (.cells #[vk] 23)).cell? ⟨w.heap.size, 0, none⟩ = some vk by simp [World.cell?_alloc_new])
  have HS := hide (show (w.alloc (.cells #[vk] 23)).heap.size = w.heap.size + 1 by simp)
  have HB := hide (imagesBy_any va vb 71 #[.pointer (some ⟨w.heap.size, 0, none⟩)] r c _ (rowC_below ha hbx) (inRow_below hb hbx))
  obtain ⟨ak, ck, rfl, -, -⟩ := hk
  obtain ⟨-, a1, c1, rfl, -, -⟩ := ha
  obtain ⟨a2, c2, rfl, -, -⟩ := hb
  generalize r.length = n1 at *
  generalize c.length = n2 at *
  generalize k.length = n3 at *
  clear hbx
  go_enter Try.func42, Try.ntmps42
  go_wp2_with fail
  generalize w.alloc (.cells #[.slice ak n3 ck] 23) = w1 at *
  refine HB.out.mono ?_
  rw [HS.out]
  rintro e w2 ⟨rfl, h1, h2, h3, h4, h5⟩
  have H := hide (And.intro h1 (And.intro h2 (And.intro h3 (And.intro h4 h5))))
  clear h1 h2 h3 h4 h5
  go_wp2
  go_ret
  have hb := H.out.2.2.2.1
  refine ⟨rfl, (hb.cell (p := ⟨w.heap.size, 0, none⟩) (Nat.lt_succ_self _)).trans HQ.out, H.out.1, H.out.2.1, H.out.2.2.1, HBX.out.trans (hb.mono (Nat.le_succ _)), H.out.2.2.2.2⟩
theorem below_of_itStep {w0 w W W' : World} {A A' : Nat → Prop} (hw : Below w0.heap.size w0 w) (hb : Below w.heap.size w W) (hA : ∀ k, A k → w.heap.size ≤ k) (h : ItStep A A' W W') : Below w0.heap.size w0 W' :=
  hw.trans ((below_itStep hb hA h).mono hw.size)
/-- The iterator over the images that meet a mask. -/
theorem mask_start {k : List (List Int)} {r c : List Int} {vk va vb : Value} {w W : World} {b0 b1 b2 b3 : Nat} {A : Nat → Prop} (hk : InMat w vk k) (ha : RowC w va r) (hb : InRow w vb c) (hs : maskB k r c = true) (hW : Below w.heap.size w W) (hA : ∀ k, A k → w.heap.size ≤ k ∧ k < W.heap.size)
    (h0 : W.cell? ⟨b0, 0, none⟩ = some vk) (h1 : W.cell? ⟨b1, 0, none⟩ = some va) (h2 : W.cell? ⟨b2, 0, none⟩ = some vb) (h3 : W.cell? ⟨b3, 0, none⟩ = some (.func (.func 71) #[] #[.pointer (some ⟨b0, 0, none⟩)])) (hb0 : ¬ A b0) (hb1 : ¬ A b1) (hb2 : ¬ A b2) (hb3 : ¬ A b3) :
    EachC Try.prog 101 #[.pointer (some ⟨b1, 0, none⟩), .pointer (some ⟨b3, 0, none⟩), .pointer (some ⟨b2, 0, none⟩)] (maskedL k r c) ValM W A := by
  have hm : sumsOk r c = true ∧ k.length = r.length := by
    unfold maskB at hs
    simp only [Bool.and_eq_true, beq_iff_eq] at hs
    exact hs.1
  obtain ⟨hr5, hc5, -⟩ := sumsOk_yes hm.1
  rw [← maskedL_im hs]
  exact iter_any 71 (enters_of Try.func71 (by kernel_rfl) rfl) #[.pointer (some ⟨b0, 0, none⟩)] _ r c b1 b2 b3 va vb A W (safe_and (safe_cell h1 hb1) (safe_and (safe_cell h2 hb2) (safe_and (safe_cell h3 hb3) (safe_and (fun A' W' h => rowC_below ha (below_itStep hW (fun k hk => (hA k hk).1) h)) (safe_and (fun A' W' h => inRow_below hb (below_itStep hW (fun k hk => (hA k hk).1) h))
    (fun A' W' h => chF_mask k vk b0 _ W' (inMat_below hk (below_itStep hW (fun k hk => (hA k hk).1) h)) (safe_cell h0 hb0 A' W' h) (by omega) (by omega))))))) (fun k hk => (hA k hk).2) hr5.2 hc5 (mid_sums hm.1)
theorem maskedL_len (k : List (List Int)) (r c : List Int) : (maskedL k r c).length ≤ 100000 := Nat.le_trans (List.length_filter_le _ _) (allIm_len r c)
set_option maxHeartbeats 1000000 in
theorem implMaskedCount_any (vk va vb : Value) (k : List (List Int)) (r c : List Int) (w : World) (hk : InMat w vk k) (ha : RowC w va r) (hb : InRow w vb c) :
    Calls Try.prog 11 #[vk, va, vb] w fun e w' => e = .returned (.int .i64 (maskedCnt k r c)) ∧ Below w.heap.size w w' := by
  have HMO := hide (implMaskOk_any vk va vb k r c w hk ha.1 hb)
  cases h : maskB k r c with
  | false =>
    have HC := hide (show maskedCnt k r c = -1 by unfold maskedCnt; rw [h]; rfl)
    rw [HC.out]
    rw [h] at HMO
    obtain ⟨ak, ck, rfl, -, -⟩ := hk
    obtain ⟨-, a1, c1, rfl, -, -⟩ := ha
    obtain ⟨a2, c2, rfl, -, -⟩ := hb
    generalize r.length = n1 at *
    generalize c.length = n2 at *
    generalize k.length = n3 at *
    clear h
    go_enter Try.func11, Try.ntmps11
    go_wp2_with (go_at_call 12; refine HMO.out.mono ?_; rintro e w1 ⟨rfl, b1⟩; have B1 := hide b1; clear b1)
    go_ret
    exact ⟨rfl, B1.out⟩
  | true =>
    have HC := hide (show maskedCnt k r c = ((maskedL k r c).length : Int) by unfold maskedCnt; rw [h]; rfl)
    have HLEN := hide (maskedL_len k r c)
    rw [HC.out]
    rw [h] at HMO
    have HIW := hide fun w' (hw : Below w.heap.size w w') => imagesMeeting_any vk va vb k r c w' (inMat_below hk hw) (rowC_below ha hw) (inRow_below hb hw)
    have HCO := hide fun (w1 w3 : World) (h1 : Below w.heap.size w w1) (h3 : Below w1.heap.size w1 w3) (hs : w3.heap.size = w1.heap.size + 4) (hx0 : w3.cell? ⟨w1.heap.size, 0, none⟩ = some vk) (hx1 : w3.cell? ⟨w1.heap.size + 1, 0, none⟩ = some va) (hx2 : w3.cell? ⟨w1.heap.size + 2, 0, none⟩ = some vb) (hx3 : w3.cell? ⟨w1.heap.size + 3, 0, none⟩ = some (.func (.func 71) #[] #[.pointer (some ⟨w1.heap.size, 0, none⟩)])) =>
      countOf_any 101 (enters_of Try.func101 (by kernel_rfl) rfl) #[.pointer (some ⟨w1.heap.size + 1, 0, none⟩), .pointer (some ⟨w1.heap.size + 3, 0, none⟩), .pointer (some ⟨w1.heap.size + 2, 0, none⟩)] (maskedL k r c) w w3 (h1.trans (h3.mono h1.size)) HLEN.out
        (fun W hW hlt => mask_start hk ha hb h ((h1.trans (h3.mono h1.size)).trans (hW.mono (h1.trans (h3.mono h1.size)).size)) (fun k hk => ⟨by have := h1.size; omega, by omega⟩) (below_cell hW (by omega) hx0) (below_cell hW (by omega) hx1) (below_cell hW (by omega) hx2) (below_cell hW (by omega) hx3) (by omega) (by omega) (by omega) (by omega))
    obtain ⟨L, hL⟩ : ∃ L, L = maskedL k r c := ⟨_, rfl⟩
    rw [← hL] at HCO ⊢
    obtain ⟨ak, ck, rfl, -, -⟩ := hk
    obtain ⟨-, a1, c1, rfl, -, -⟩ := ha
    obtain ⟨a2, c2, rfl, -, -⟩ := hb
    obtain ⟨n1, hn1⟩ : ∃ n, n = r.length := ⟨_, rfl⟩
    obtain ⟨n2, hn2⟩ : ∃ n, n = c.length := ⟨_, rfl⟩
    obtain ⟨n3, hn3⟩ : ∃ n, n = k.length := ⟨_, rfl⟩
    rw [← hn1, ← hn2, ← hn3] at HMO HIW HCO
    rw [← hn1, ← hn2, ← hn3]
    clear h hn1 hn2 hn3 hL HC HLEN
    go_enter Try.func11, Try.ntmps11
    go_wp2_with (go_at_call 12; refine HMO.out.mono ?_; rintro e w1 ⟨rfl, b1⟩; have B1 := hide b1; clear b1)
    refine (HIW.out _ B1.out).mono ?_
    rintro e w3 ⟨rfl, hx0, hx1, hx2, hx3, hb3, hs3⟩
    have HC3 := hide (HCO.out _ w3 B1.out hb3 hs3 hx0 hx1 hx2 hx3)
    clear hx0 hx1 hx2 hx3 hb3 hs3
    go_wp2_with fail
    refine HC3.out.mono ?_
    rintro e w4 ⟨rfl, b4⟩
    have B4 := hide b4
    clear b4
    go_wp2
    go_ret
    exact ⟨rfl, B4.out⟩
/-- What the program's cells hold while it looks for the first image. -/
def SeekSt (q : Nat) (pre : List (List (List Int))) (A : Nat → Prop) (W : World) : Prop := pre = [] ∧ (∀ k, A k ↔ k = q ∨ k = q + 1) ∧ Boxed W q 23 (.slice none 0 0) ∧ Boxed W (q + 1) 4 (.bool false)
/-- .. and once it has found it. -/
def FoundSt (w : World) (q : Nat) (pre : List (List (List Int))) (A : Nat → Prop) (W : World) : Prop :=
  ∃ (m : List (List Int)) (v : Value) (lo : Nat) (G : Nat → Prop), pre = [m] ∧ Boxed W q 23 v ∧ Boxed W (q + 1) 4 (.bool true) ∧ ValM v m lo G W ∧ (∀ k, G k → A k ∧ k < W.heap.size) ∧ w.heap.size ≤ lo ∧ (A q ∧ A (q + 1)) ∧ Below w.heap.size w W
theorem results_cells {fn : Func} {t u : Tmp} {ty tz : TypeId} (h : fn.results = #[.cell t ty, .cell u tz]) {tmps : Array Value} {P : Program} {w : World} {v z : Value} {a b : Addr} (ht : tmps.getD t undef = .pointer (some a)) (hu : tmps.getD u undef = .pointer (some b))
    (hv : (loadVar ty a).run P w = .ok v w) (hz : (loadVar tz b).run P w = .ok z w) : (results fn tmps).run P w = .ok (.tuple #[v, z]) w := by
  have ht' : tmps[t]?.getD undef = .pointer (some a) := by simpa using ht
  have hu' : tmps[u]?.getD undef = .pointer (some b) := by simpa using hu
  simp [results, h, ht', hu', asAddr, hv, hz]
theorem loadMat_run {w : World} {q : Nat} {v : Value} (h : Boxed w q 23 v) : (loadVar 23 ⟨q, 0, none⟩).run Try.prog w = .ok v w := by
  have hc := h.cell
  go_simp
theorem loadBool_run {w : World} {q : Nat} {b : Bool} (h : Boxed w q 4 (.bool b)) : (loadVar 4 ⟨q, 0, none⟩).run Try.prog w = .ok (.bool b) w := by
  have hc := h.cell
  go_simp

end Go.Proofs.Ytjgkblgilnfpfaa
/-
  The law FnConflicts, walked.
-/
namespace Go.Proofs.Ytjgkblgilnfpfaa
open Go.RowKit

theorem bit64_at : ∀ k : Nat, k < 32 → ∀ e : Nat, e < 5 → bits BinOp.and IntKind.i64 ((k : Int) / 2 ^ e) 1 = ((k / 2 ^ e % 2 : Nat) : Int) := by decide +kernel
set_option maxHeartbeats 400000 in
theorem bits_any (k n : Nat) (w : World) (hk : k < 32) (hn : n ≤ 5) :
    Calls Try.prog 14 #[.int .i64 k, .int .i64 n] w (IntsRes (bitsL k n) w) := by
  have HBI := hide fun (e : Nat) (he : e < 5) => bit64_at k hk e he
  have HX : Hid ((w.alloc (.cells #[] 3)).ownsRow w.heap.size 3 1 (.slice (some ⟨w.heap.size, 0, none⟩) 0 0) 0 []) := hide (World.ownsRow_made (base := w.heap.size) w #[] 0 (Nat.le_refl _) (Nat.zero_le _) rfl)
  have HAL := hide ((Below.refl w.heap.size w).alloc (Nat.le_refl _) (.cells #[] 3))
  have HLE := hide (bitsL_len k)
  go_enter Try.func14, Try.ntmps14
  go_wp2
  go_loopw [5, 6] (fun u i W => ∃ (t : Nat) (v : Value), t ≤ n ∧ i = .int .i64 t ∧ v = u ∧ W.ownsRow w.heap.size 3 1 v (bitsL k t).length (ints (bitsL k t)) ∧ Below w.heap.size w W) (fun _ i _ => n - (intOf i).toNat)
  case atStart => exact ⟨0, _, Nat.zero_le _, rfl, rfl, HX.out, HAL.out⟩
  case round =>
    clear HX HAL
    obtain ⟨t, v, ht, rfl, rfl, ho, hb⟩ := hrel
    obtain ⟨av, cv, rfl⟩ := own_slice ho
    have HO := hide ho; have HB := hide hb
    have hsz := hb.size
    have hl := HLE.out t
    have HS := hide (bitsL_succ k t)
    obtain ⟨L, hL⟩ : ∃ L, L = bitsL k t := ⟨_, rfl⟩
    have HLL := hide hL.symm
    rw [← hL] at HO HS hl ⊢
    obtain ⟨m, hm⟩ : ∃ m, m = L.length := ⟨_, rfl⟩
    have HM := hide hm
    rw [← hm] at HO hl ⊢
    clear ho hb hL hm
    by_cases hlt : t < n
    · have ht5 : t < 5 := by omega
      have hbit := HBI.out t ht5
      obtain ⟨b, hbb⟩ : ∃ b, b = k / 2 ^ t % 2 := ⟨_, rfl⟩
      rw [← hbb] at hbit HS
      have hb2 : b = 0 ∨ b = 1 := by omega
      clear hbb
      rcases hb2 with rfl | rfl
      · have HE : Hid (bitsL k (t + 1) = L) := hide (by rw [HS.out]; simp)
        go_wp2
        go_roundw
        case rel => exact ⟨t + 1, _, by omega, by go_num, rfl, by rw [HE.out, ← HM.out]; exact HO.out, HB.out⟩
        case measure => simp [intOf]; omega
      · have HE : Hid (bitsL k (t + 1) = L ++ [(t : Int)]) := hide (by rw [HS.out]; simp)
        go_wp2_with (at_builtin; refine wpList_push HO.out (.int .i64 t) (.int .i64 0) rfl _ _ rfl Try.underlying24 Try.infoInt rfl (by decide) rfl rfl rfl (by omega) hsz ?_; intro v' w6 hown1 hb1 hg1)
        go_roundw
        case rel =>
          have e : ints (L ++ [(t : Int)]) = ints L ++ [.int .i64 t] := by simp [ints]
          exact ⟨t + 1, _, by omega, by go_num, rfl, by rw [HE.out, e, List.length_append, List.length_singleton, ← HM.out]; exact hown1, HB.out.trans hb1⟩
        case measure => simp [intOf]; omega
    · obtain rfl : t = n := by omega
      go_wp2
      go_ret
      exact ⟨_, rfl, by rw [HLL.out, ← HM.out]; exact HO.out, HB.out⟩

theorem pow_wrap : ∀ R : Nat, R ≤ 5 → wrap64 ((2 : Int) ^ R) = ((2 ^ R : Nat) : Int) := by decide +kernel
set_option maxRecDepth 100000 in
set_option maxHeartbeats 4000000 in
theorem lawConflicts_walk (a : Option Addr) (n c : Nat) (w : World) (hin : InBytes w w.heap.size a n) :
    Calls Try.prog 3 #[.slice a n c] w fun e w' => e = .returned (.bool true) ∧ Below w.heap.size w w' := by
  have hmax := hin.1
  unfold maxLen at hmax
  by_cases hbig : 1048576 < n
  · go_enter Try.func3, Try.ntmps3
    clear hin
    go_wp2
    go_ret
    exact ⟨rfl, Below.refl _ _⟩
  · have HI := hide hin
    clear hin
    go_enter Try.func3, Try.ntmps3
    go_wp2_with fail
    refine (makeMask_any n c a _ _ HI.out (by omega)).mono ?_
    rintro e w1 ⟨vk, vr, vc, k, r, s, rfl, hm, hk, hr, hs, hb1⟩
    have HK := hide hk; have HRC := hide (rowC_own hr); have HCR := hide (inRow_own hs); have HB1 := hide hb1; have HM := hide hm
    obtain ⟨hso, -⟩ := mask_parts hm
    obtain ⟨⟨hR1, hR5⟩, ⟨hC1, hC5⟩, -⟩ := sumsOk_yes hso
    have HMC := hide (implMaskedCount_any vk vr vc k r s w1 HK.out HRC.out HCR.out)
    have HMO := hide fun w' (hw : Below w1.heap.size w1 w') => implMaskOk_any vk vr vc k r s w' (inMat_below HK.out hw) (inRow_below HRC.out.1 hw) (inRow_below HCR.out hw)
    have HHC := hide fun (w' : World) (x y : Nat) (vl vo : Value) (hw : Below w1.heap.size w1 w') (hl : InRow w' vl (bitsL x r.length)) (ho : InRow w' vo (bitsL y s.length)) => (implHasConf_any vk vr vc vl vo k r s (bitsL x r.length) (bitsL y s.length) w' (inMat_below HK.out hw) (inRow_below HRC.out.1 hw) (inRow_below HCR.out hw) hl ho : Calls _ _ _ _ _)
    rw [show maskedCnt k r s = ((maskedL k r s).length : Int) by unfold maskedCnt; rw [if_pos hm]] at HMC
    simp only [hm] at HMO
    have HANY := hide (any_none hm)
    have HLEN := hide (maskedL_len k r s)
    obtain ⟨mc, hmc⟩ : ∃ mc, mc = (maskedL k r s).length := ⟨_, rfl⟩
    rw [← hmc] at HMC HANY HLEN
    have hmcl := HLEN.out
    have HAS := hide (allAny_succ k r s); have HRS := hide (show ∀ x m, rowAny k r s x (m + 1) = (rowAny k r s x m || hasConfB k r s (bitsL x r.length) (bitsL m s.length)) from rowAny_succ k r s)
    have HA0 := hide (show allAny k r s 0 = false from rfl); have HR0 := hide (fun x => show rowAny k r s x 0 = false from rfl)
    obtain ⟨R, hR⟩ : ∃ R, R = r.length := ⟨_, rfl⟩
    obtain ⟨C, hC⟩ : ∃ C, C = s.length := ⟨_, rfl⟩
    rw [← hR] at hR1 hR5 HHC HANY HRS
    rw [← hC] at hC1 hC5 HHC HAS HRS
    obtain ⟨ak, ck, rfl, -, -⟩ := hk
    obtain ⟨ar, cr, rfl⟩ := own_slice hr
    obtain ⟨ac, cc, rfl⟩ := own_slice hs
    rw [← hR] at HMC HMO HHC ⊢
    rw [← hC] at HMC HMO HHC ⊢
    clear hb1 hm hso hmc hr hs hR hC HLEN
    go_wp2_with fail
    refine HMC.out.mono ?_
    rintro e w2 ⟨rfl, b2⟩
    have B2 := hide b2
    clear b2
    go_wp2_with fail
    refine (HMO.out _ B2.out).mono ?_
    rintro e w3 ⟨rfl, b3⟩
    have B3 := hide (B2.out.trans (b3.mono B2.out.size))
    clear b3
    obtain ⟨P, hP⟩ : ∃ P : Nat, P = 2 ^ R := ⟨_, rfl⟩
    obtain ⟨Q, hQ⟩ : ∃ Q : Nat, Q = 2 ^ C := ⟨_, rfl⟩
    have hPw : wrap64 ((2 : Int) ^ R) = (P : Int) := by rw [hP]; exact pow_wrap R hR5
    have hQw : wrap64 ((2 : Int) ^ C) = (Q : Int) := by rw [hQ]; exact pow_wrap C hC5
    have hP32 : P ≤ 32 := by rw [hP]; exact Nat.pow_le_pow_right (by decide) hR5
    have hQ32 : Q ≤ 32 := by rw [hQ]; exact Nat.pow_le_pow_right (by decide) hC5
    rw [← hP] at HANY
    rw [← hQ] at HAS
    clear hP hQ
    go_wp2_with fail
    go_loopw [7, 8] (fun q i W => ∃ x : Nat, x ≤ P ∧ i = .int .i64 x ∧ q = .bool (allAny k r s x) ∧ Below w1.heap.size w1 W) (fun _ i _ => P - (intOf i).toNat)
    case atStart => exact ⟨0, Nat.zero_le _, rfl, by rw [HA0.out], B3.out⟩
    case round =>
      obtain ⟨x, hx, rfl, rfl, hb⟩ := hrel
      have HB := hide hb
      have HSX := hide (HAS.out x)
      have HRX := hide (HRS.out x); have HR0X := hide (HR0.out x)
      obtain ⟨q, hq⟩ : ∃ q, q = allAny k r s x := ⟨_, rfl⟩
      have HQ := hide hq
      rw [← hq] at HSX ⊢
      clear hb hq
      by_cases hlt : x < P
      · have hxP : (x : Int) < (P : Int) := by omega
        go_wp2
        rw [hPw]
        go_loopw [7, 9] (fun u i W => ∃ y : Nat, y ≤ Q ∧ i = .int .i64 y ∧ u = .bool (q || rowAny k r s x y) ∧ Below w1.heap.size w1 W) (fun _ i _ => Q - (intOf i).toNat)
        case atStart => exact ⟨0, Nat.zero_le _, rfl, by rw [HR0X.out, Bool.or_false], HB.out⟩
        case round =>
          obtain ⟨y, hy, rfl, rfl, hb⟩ := hrel
          have HBY := hide hb
          have HRY := hide (HRX.out y)
          obtain ⟨t, ht⟩ : ∃ t, t = rowAny k r s x y := ⟨_, rfl⟩
          have HT := hide ht
          rw [← ht] at HRY ⊢
          obtain ⟨z, hz⟩ : ∃ z, z = (q || t) := ⟨_, rfl⟩
          have HZ := hide hz
          rw [← hz]
          clear hb ht hz
          by_cases hly : y < Q
          · have hyQ : (y : Int) < (Q : Int) := by omega
            cases z with
            | true =>
              go_wp2
              go_roundw
              case rel => exact ⟨y + 1, by omega, by go_num, by rw [HRY.out, ← Bool.or_assoc, ← HZ.out]; rfl, HBY.out⟩
              case measure => simp [intOf]; omega
            | false =>
              have HBX := hide fun w' => bits_any x R w' (by omega) hR5
              have HBYY := hide fun w' => bits_any y C w' (by omega) hC5
              go_wp2_with fail
              refine (HBX.out _).mono ?_
              rintro e w5 ⟨vl, rfl, hol, hb5⟩
              have HOL := hide (inRow_own hol); have HB5 := hide (HBY.out.trans (hb5.mono HBY.out.size))
              obtain ⟨al, cl, rfl⟩ := own_slice hol
              clear hol hb5
              go_wp2_with fail
              refine (HBYY.out _).mono ?_
              rintro e w6 ⟨vo, rfl, hoo, hb6⟩
              have HOO := hide (inRow_own hoo); have HOL6 := hide (inRow_below HOL.out hb6); have HB6 := hide (HB5.out.trans (hb6.mono HB5.out.size))
              obtain ⟨ao, co, rfl⟩ := own_slice hoo
              clear hoo hb6
              have HCL := hide (HHC.out w6 x y _ _ HB6.out HOL6.out HOO.out)
              generalize (bitsL x R).length = n1 at *
              generalize (bitsL y C).length = n2 at *
              go_wp2_with fail
              refine HCL.out.mono ?_
              rintro e w7 ⟨rfl, hb7⟩
              have HB7 := hide (HB6.out.trans (hb7.mono HB6.out.size))
              clear hb7
              obtain ⟨cb, hcb⟩ : ∃ cb, cb = hasConfB k r s (bitsL x R) (bitsL y C) := ⟨_, rfl⟩
              rw [← hcb] at HRY ⊢
              clear hcb HCL
              go_wp2
              go_roundw
              case rel => exact ⟨y + 1, by omega, by go_num, by rw [HRY.out, ← Bool.or_assoc, ← HZ.out]; rfl, HB7.out⟩
              case measure => simp [intOf]; omega
          · obtain rfl : y = Q := by omega
            have hyQ : ¬ (y : Int) < (y : Int) := by omega
            go_wp2
            go_roundw
            case rel => exact ⟨x + 1, by omega, by go_num, by rw [HSX.out, ← HT.out, ← HZ.out], HBY.out⟩
            case measure => simp [intOf]; omega
      · obtain rfl : x = P := by omega
        have HQQ : Hid (q = decide (mc = 0)) := hide (by rw [HQ.out, HANY.out])
        by_cases h0 : mc = 0
        · have HQT : Hid (q = true) := hide (by rw [HQQ.out, decide_eq_true h0])
          rw [HQT.out]
          subst h0
          clear HQ HQQ HSX
          go_wp2
          go_ret
          exact ⟨rfl, HB1.out.trans (HB.out.mono HB1.out.size)⟩
        · have HQF : Hid (q = false) := hide (by rw [HQQ.out, decide_eq_false h0])
          rw [HQF.out]
          have h00 : ((mc : Int) == 0) = false := by simp; omega
          clear HQ HQQ HSX
          go_wp2
          go_ret
          exact ⟨rfl, HB1.out.trans (HB.out.mono HB1.out.size)⟩
end Go.Proofs.Ytjgkblgilnfpfaa
