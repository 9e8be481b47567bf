/-
  Texts of this claim, one behind the other: Eq, Same, Alike, FnSumR.
-/
import Derived.Test.YtjnnoabaepmcnaaPackA
import Derived.Test.YtjnnoabaepmcnaaPackI
import Derived.Test.YtjnnoabaepmcnaaPackJ
import Derived.Test.YtjnnoabaepmcnaaPackE
/-
  Lists of integers held against one another: slices.Equal.
-/
namespace Go.Proofs.Ytjnnoabaepmcnaa
open Go.RowKit

theorem sameRow_no {r s : List Int} (h : r.length ≠ s.length) : (r == s) = false := by
  rw [beq_eq_false_iff_ne]; intro e; exact h (by rw [e])
theorem sameRow_no2 {r s : List Int} (k : Nat) (hr : k < r.length) (hs : k < s.length) (h : r[k] ≠ s[k]) : (r == s) = false := by
  rw [beq_eq_false_iff_ne]; intro e; subst e; exact h rfl
theorem sameRow_yes {r s : List Int} (h : r.length = s.length) (h2 : ∀ k, (hr : k < r.length) → (hs : k < s.length) → r[k] = s[k]) : (r == s) = true := by
  rw [beq_iff_eq]; exact List.ext_getElem h h2
theorem sameMat_no {r s : List (List Int)} (h : r.length ≠ s.length) : (r == s) = false := by
  rw [beq_eq_false_iff_ne]; intro e; exact h (by rw [e])
theorem sameMat_no2 {r s : List (List Int)} (k : Nat) (hr : k < r.length) (hs : k < s.length) (h : (r[k] == s[k]) = false) : (r == s) = false := by
  rw [beq_eq_false_iff_ne] at h ⊢; intro e; subst e; exact h rfl
theorem sameMat_yes {r s : List (List Int)} (h : r.length = s.length) (h2 : ∀ k, (hr : k < r.length) → (hs : k < s.length) → (r[k] == s[k]) = true) : (r == s) = true := by
  rw [beq_iff_eq]; exact List.ext_getElem h fun k h1 h2' => by simpa using h2 k h1 h2'

end Go.Proofs.Ytjnnoabaepmcnaa
/-
  SameImage, of the model and of the program, and the exact law, walked.
-/
namespace Go.Proofs.Ytjnnoabaepmcnaa
open Go.RowKit

end Go.Proofs.Ytjnnoabaepmcnaa
/-
  The helpers of the laws that are no exact ones: same, alike.
-/
namespace Go.Proofs.Ytjnnoabaepmcnaa
open Go.RowKit
set_option maxHeartbeats 1000000 in
theorem same_any (va vb : Value) (r s : List Int) (w : World) (ha : InRow w va r) (hb : InRow w vb s) :
    Calls Try.prog 13 #[va, vb] w fun e w' => e = .returned (.bool (r == s)) ∧ w = w' := by
  obtain ⟨a, ca, rfl, hma, hpa⟩ := ha
  obtain ⟨b, cb, rfl, hmb, hpb⟩ := hb
  unfold maxLen at hma hmb
  by_cases hlen : r.length = s.length
  · by_cases h0 : r.length = 0
    · have hr : r = [] := List.eq_nil_of_length_eq_zero h0
      have hs : s = [] := List.eq_nil_of_length_eq_zero (by omega)
      subst hr; subst hs
      clear hpa hpb hma hmb hlen h0
      go_enter Try.func13, Try.ntmps13
      go_wp2
      go_loop [14] (fun i => i = .int .i64 0) (fun _ => 0)
      case atStart => rfl
      case round =>
        obtain rfl := hrel
        go_wp2
        go_ret
        exact ⟨rfl, rfl⟩
    · obtain ⟨ga, oa, rfl, -, hca⟩ := hpa.resolve_left h0
      obtain ⟨gb, ob, rfl, -, hcb⟩ := hpb.resolve_left (by omega)
      have HA := hide hca; have HB := hide hcb; have HL := hide hlen
      obtain ⟨n, hn⟩ : ∃ n, n = r.length := ⟨_, rfl⟩
      have HN := hide hn
      have HM : Hid (s.length = n) := hide (by omega)
      rw [← hlen, ← hn]
      rw [← hn] at hma
      clear hpa hpb hca hcb h0 hmb hlen hn
      go_enter Try.func13, Try.ntmps13
      go_wp2
      go_loop [14] (fun i => ∃ k : Nat, k ≤ n ∧ i = .int .i64 k ∧ ∀ t, (h1 : t < r.length) → (h2 : t < s.length) → t < k → r[t] = s[t]) (fun i => n - (intOf i).toNat)
      case atStart => exact ⟨0, Nat.zero_le _, rfl, fun t _ _ h => absurd h (Nat.not_lt_zero _)⟩
      case round =>
        obtain ⟨k, hk, rfl, hall⟩ := hrel
        have HH := hide hall
        clear hall
        by_cases hlt : k < n
        · have hkr : k < r.length := by rw [← HN.out]; exact hlt
          have hks : k < s.length := by rw [HM.out]; exact hlt
          have hxa := HA.out k hkr
          have hxb := HB.out k hks
          have HNO := hide (fun h => sameRow_no2 k hkr hks h)
          have HST : Hid (r[k] = s[k] → ∀ t, (h1 : t < r.length) → (h2 : t < s.length) → t < k + 1 → r[t] = s[t]) := hide fun h t h1 h2 ht => by
            by_cases e : t = k
            · subst e; exact h
            · exact HH.out t h1 h2 (by omega)
          obtain ⟨x, hx⟩ : ∃ x, x = r[k] := ⟨_, rfl⟩
          obtain ⟨y, hy⟩ : ∃ y, y = s[k] := ⟨_, rfl⟩
          rw [← hx, ← hy] at HNO HST
          rw [← hx] at hxa
          rw [← hy] at hxb
          clear hx hy
          by_cases e : x = y
          · subst e
            have HST := hide (HST.out rfl)
            go_wp2
            go_round
            case rel => exact ⟨k + 1, by omega, by go_num, HST.out⟩
            case measure => simp [intOf]; omega
          · have HF := hide (HNO.out e)
            have hne : (x == y) = false := by simpa using e
            have hne2 : (x != y) = true := by simpa using e
            clear e
            go_wp2
            go_ret
            exact ⟨ret_bool HF.out.symm, rfl⟩
        · have HY := hide (sameRow_yes HL.out fun t h1 h2 => HH.out t h1 h2 (by have := HN.out; omega))
          go_wp2
          go_ret
          exact ⟨ret_bool HY.out.symm, rfl⟩
  · have HF := hide (sameRow_no hlen)
    obtain ⟨n, hn⟩ : ∃ n, n = r.length := ⟨_, rfl⟩
    obtain ⟨k, hk⟩ : ∃ k, k = s.length := ⟨_, rfl⟩
    rw [← hn, ← hk] at hlen ⊢
    rw [← hn] at hma
    rw [← hk] at hmb
    have hne : ((n : Int) == (k : Int)) = false := by simp; omega
    have hne2 : ((n : Int) != (k : Int)) = true := by simp; omega
    clear hpa hpb hn hk hlen
    go_enter Try.func13, Try.ntmps13
    go_wp2
    go_ret
    exact ⟨ret_bool HF.out.symm, rfl⟩


set_option maxHeartbeats 1000000 in
theorem alike_any (va vb : Value) (m l : List (List Int)) (w : World) (ha : InMat w va m) (hb : InMat w vb l) :
    Calls Try.prog 26 #[va, vb] w fun e w' => e = .returned (.bool (m == l)) ∧ Below w.heap.size w w' := by
  obtain ⟨a, ca, rfl, hma, hpa⟩ := ha
  obtain ⟨b, cb, rfl, hmb, hpb⟩ := hb
  unfold maxLen at hma hmb
  by_cases hlen : m.length = l.length
  · by_cases h0 : m.length = 0
    · have hr : m = [] := List.eq_nil_of_length_eq_zero h0
      have hs : l = [] := List.eq_nil_of_length_eq_zero (by omega)
      subst hr; subst hs
      clear hpa hpb hma hmb hlen h0
      go_enter Try.func26, Try.ntmps26
      go_wp2
      go_loop [14] (fun i => i = .int .i64 0) (fun _ => 0)
      case atStart => rfl
      case round =>
        obtain rfl := hrel
        go_wp2
        go_ret
        exact ⟨rfl, Below.refl _ _⟩
    · obtain ⟨ga, oa, rfl, hga, hca⟩ := hpa.resolve_left h0
      obtain ⟨gb, ob, rfl, hgb, hcb⟩ := hpb.resolve_left (by omega)
      have HA := hide hca; have HB := hide hcb; have HL := hide hlen
      obtain ⟨n, hn⟩ : ∃ n, n = m.length := ⟨_, rfl⟩
      have HN := hide hn
      have HM : Hid (l.length = n) := hide (by omega)
      rw [← hlen, ← hn]
      rw [← hn] at hma
      clear hpa hpb hca hcb h0 hmb hlen hn
      go_enter Try.func26, Try.ntmps26
      go_wp2
      go_loopw [14] (fun i w' => ∃ k : Nat, k ≤ n ∧ i = .int .i64 k ∧ (∀ t, (h1 : t < m.length) → (h2 : t < l.length) → t < k → (m[t] == l[t]) = true) ∧ Below w.heap.size w w') (fun i _ => n - (intOf i).toNat)
      case atStart => exact ⟨0, Nat.zero_le _, rfl, fun t _ _ h => absurd h (Nat.not_lt_zero _), Below.refl _ _⟩
      case round =>
        obtain ⟨k, hk, rfl, hall, hbb⟩ := hrel
        have HH := hide hall; have HBB := hide hbb
        clear hall hbb
        by_cases hlt : k < n
        · have hkr : k < m.length := by rw [← HN.out]; exact hlt
          have hks : k < l.length := by rw [HM.out]; exact hlt
          obtain ⟨ua, hxa, hra⟩ := HA.out k hkr
          obtain ⟨ub, hxb, hrb⟩ := HB.out k hks
          have hxa := below_cell HBB.out hga hxa
          have hxb := below_cell HBB.out hgb hxb
          have HRA := hide (inRow_below hra HBB.out)
          have HRB := hide (inRow_below hrb HBB.out)
          have HNO := hide (fun h => sameMat_no2 k hkr hks h)
          have HST : Hid ((m[k] == l[k]) = true → ∀ t, (h1 : t < m.length) → (h2 : t < l.length) → t < k + 1 → (m[t] == l[t]) = true) := hide fun h t h1 h2 ht => by
            by_cases e : t = k
            · subst e; exact h
            · exact HH.out t h1 h2 (by omega)
          clear hra hrb
          cases e : (m[k] == l[k]) with
          | true =>
            have HE := hide e
            have HST := hide (HST.out e)
            clear e
            go_wp2_with (go_at_call 13; refine (same_any _ _ _ _ _ HRA.out HRB.out).mono ?_; rw [HE.out]; rintro e w9 ⟨rfl, rfl⟩)
            go_roundw
            case rel => exact ⟨k + 1, by omega, by go_num, HST.out, HBB.out⟩
            case measure => simp [intOf]; omega
          | false =>
            have HE := hide e
            have HF := hide (HNO.out e)
            clear e
            go_wp2_with (go_at_call 13; refine (same_any _ _ _ _ _ HRA.out HRB.out).mono ?_; rw [HE.out]; rintro e w9 ⟨rfl, rfl⟩)
            go_ret
            exact ⟨ret_bool HF.out.symm, HBB.out⟩
        · have HY := hide (sameMat_yes HL.out fun t h1 h2 => HH.out t h1 h2 (by have := HN.out; omega))
          go_wp2
          go_ret
          exact ⟨ret_bool HY.out.symm, HBB.out⟩
  · have HF := hide (sameMat_no hlen)
    obtain ⟨n, hn⟩ : ∃ n, n = m.length := ⟨_, rfl⟩
    obtain ⟨k, hk⟩ : ∃ k, k = l.length := ⟨_, rfl⟩
    rw [← hn, ← hk] at hlen ⊢
    rw [← hn] at hma
    rw [← hk] at hmb
    have hne : ((n : Int) == (k : Int)) = false := by simp; omega
    have hne2 : ((n : Int) != (k : Int)) = true := by simp; omega
    clear hpa hpb hn hk hlen
    go_enter Try.func26, Try.ntmps26
    go_wp2
    go_ret
    exact ⟨ret_bool HF.out.symm, Below.refl _ _⟩

theorem alike_yes (va vb : Value) (m : List (List Int)) (w : World) (ha : InMat w va m) (hb : InMat w vb m) :
    Calls Try.prog 26 #[va, vb] w fun e w' => e = .returned (.bool true) ∧ Below w.heap.size w w' := by
  have h := alike_any va vb m m w ha hb
  rw [beq_self_eq_true] at h; exact h
end Go.Proofs.Ytjnnoabaepmcnaa
/-
  The law FnSums, walked.
-/
namespace Go.Proofs.Ytjnnoabaepmcnaa
open Go.RowKit
set_option maxRecDepth 100000

theorem inBytes_up {w : World} {base n : Nat} {a : Option Addr} (h : InBytes w base a n) : InBytes w w.heap.size a n :=
  ⟨h.1, Nat.le_refl _, h.2.2.imp id fun ⟨g, o, z, ha, hlt, r⟩ => ⟨g, o, z, ha, Nat.lt_of_lt_of_le hlt h.2.1, r⟩⟩
set_option maxHeartbeats 16000000 in
theorem lawSums_walk (a : Option Addr) (n c : Nat) (w : World) (hin : InBytes w w.heap.size a n) :
    Calls Try.prog 3 #[.slice a n c] w fun e w' => e = .returned (.bool true) ∧ Below w.heap.size w w' := by
  have HIN := hide hin
  clear hin
  by_cases hbig : (1048576 : Int) < n
  · go_enter Try.func3, Try.ntmps3
    go_wp2
    go_ret
    exact ⟨rfl, Below.refl _ _⟩
  have HN := hide (show n ≤ 2000000 by omega)
  go_enter Try.func3, Try.ntmps3
  go_wp2_with fail
  refine (makeImage_any n c a 0 _ _ HIN.out HN.out (by omega)).mono ?_
  rintro e w1 ⟨v, R, C, f, rfl, hI, ho, hb⟩
  have HI := hide hI; have HB1 := hide hb; have HM1 := hide (inMat_own ho)
  have hR1 := hI.r1; have hR5 := hI.r2; have hC1 := hI.c1; have hC5 := hI.c2
  have HSZ : Hid (sizeOk R C = true) := hide (by rw [sizeOk, decide_eq_true (show 1 ≤ (R : Int) ∧ (R : Int) ≤ 5 by omega), decide_eq_true (show 1 ≤ (C : Int) ∧ (C : Int) ≤ 5 by omega)]; rfl)
  have HBL := hide (blk_le R C f)
  obtain ⟨B, hBe⟩ : ∃ B, B = blk25 R C f := ⟨_, rfl⟩
  have HBE := hide hBe
  obtain ⟨gm, om, cm, rfl, hgm, hrow⟩ := inMat_img HM1.out (by omega) (by omega)
  obtain ⟨g0, o0, k0, hc0, -, -⟩ := hrow 0 (by omega)
  rw [Nat.add_zero] at hc0
  have HC0' := hide hc0; have HGM' := hide hgm
  clear hI ho hb hBe hrow hc0 hgm
  go_wp2_with fail
  refine (implCountBlack_yes _ R C f _ HM1.out HI.out).mono ?_
  rw [show (cnt (fun i => imgF R C f i == 1) 25) = B from HBE.out.symm]
  rintro e w2 ⟨rfl, hb⟩
  have HM2 := hide (inMat_below HM1.out hb); have HC2 := hide (below_cell hb HGM'.out HC0'.out); have HG2 := hide (Nat.lt_of_lt_of_le HGM'.out hb.size); have HB2 := hide (HB1.out.trans (hb.mono HB1.out.size))
  clear hb
  go_wp2_with fail
  refine (makeDirs_any n c a 20 _ (inBytes_up (inBytes_below HIN.out HB2.out)) HN.out (by omega)).mono ?_
  rintro e w3 ⟨vl, l, rfl, hd, hdc, hb⟩
  have HD := hide hd; have HL := hide hdc
  have HM3 := hide (inMat_below HM2.out hb); have HC3 := hide (below_cell hb HG2.out HC2.out); have HG3 := hide (Nat.lt_of_lt_of_le HG2.out hb.size); have HB3 := hide (HB2.out.trans (hb.mono HB2.out.size))
  have hlen := dirsB_len hd
  obtain ⟨la, lc, rfl, -, -, -⟩ := id HL.out
  obtain ⟨NL, hNl⟩ : ∃ NL, NL = l.length := ⟨_, rfl⟩
  have HNL := hide hNl
  rw [← hNl] at HL hlen ⊢
  clear hd hdc hb hNl
  go_wp2
  go_loopw [20] (fun i w' => ∃ j : Nat, j ≤ NL ∧ i = .int .i64 j ∧ Below w3.heap.size w3 w') (fun i _ => NL - (intOf i).toNat)
  case atStart => exact ⟨0, Nat.zero_le _, rfl, Below.refl _ _⟩
  case round =>
    obtain ⟨wd, rfl⟩ : ∃ wd, wd = wr := ⟨_, rfl⟩
    obtain ⟨j, hj, rfl, hbo⟩ := hrel
    have HBD := hide hbo
    clear hbo
    by_cases hlj : j < NL
    · have hljI : (j : Int) < NL := by omega
      have hjl : j < l.length := by rw [← HNL.out]; exact hlj
      obtain ⟨a', c', he, -, -, hp⟩ := HL.out
      rw [← HNL.out] at he
      cases he
      obtain ⟨gl, ol, rfl, hgl, hdr⟩ := hp.resolve_left (by omega)
      have HDR := hide (drC_below (hdr j hjl) HBD.out hgl)
      have hdok := (dirsB_at HD.out hjl).1
      obtain ⟨dd, hd⟩ : ∃ dd, dd = l[j] := ⟨_, rfl⟩
      rw [← hd] at HDR hdok
      obtain ⟨dx, dy⟩ := dd
      obtain ⟨c0, c1⟩ := HDR.out
      simp only at c0 c1 hdok
      obtain ⟨N, hN, hN41⟩ := countL_size (R := R) (C := C) (near_of hdok) ⟨hR1, hR5⟩ ⟨hC1, hC5⟩
      have HNC := hide hN; have HDOK := hide hdok
      have HTT := hide (line_smallT (R := R) (C := C) (N := N) (f := f) (dx := dx) (dy := dy) hR5 hC5 hN41)
      have HTS := hide (black_all (near_of hdok) HI.out hN)
      rw [← HBE.out] at HTS
      have HGS := hide (img_gsL HI.out hdok hN)
      have hLL := line_lenS R C N f dx dy
      obtain ⟨LR, hLR⟩ : ∃ LR, LR = lineRow R C f dx dy N := ⟨_, rfl⟩
      have HLS := hide fun (w2 : World) (hb : Below w3.heap.size w3 w2) => implLineSums_yes (.slice (some ⟨gm, om, none⟩) R cm) R C N f dx dy w2 (inMat_below HM3.out hb) HI.out hdok hN hN41
      rw [← hLR] at HTT HTS HGS HLS hLL
      have HAL := hide ((Below.refl wd.heap.size wd).alloc (Nat.le_refl _) (.cells #[.int .i64 dx, .int .i64 dy] 29))
      have HD1 := hide (show DirAt (wd.alloc (.cells #[.int .i64 dx, .int .i64 dy] 29)) wd.heap.size dx dy from heap_alloc_new wd _)
      have HLL := hide hLL
      clear hp hdr hd HDR hdok hN hLR hLL
      go_wp2_with fail
      refine (HLS.out _ (HBD.out.trans (HAL.out.mono HBD.out.size))).mono ?_
      rintro e w9 ⟨v7, rfl, ho, hb⟩
      have HA9 := hide (HAL.out.trans (hb.mono HAL.out.size))
      have HD9 := hide (dirAt_below HD1.out hb)
      have HL9 := hide (inRow_own ho)
      have h39 := HBD.out.trans (HA9.out.mono HBD.out.size)
      have HM9 := hide (inMat_below HM3.out h39)
      have HC0 := hide (below_cell h39 HG3.out HC3.out)
      have HGM := hide (Nat.lt_of_lt_of_le HG3.out h39.size)
      obtain ⟨a7, c7, rfl⟩ := own_slice ho
      rw [HLL.out] at HL9 ⊢
      have hRp : (0 : Int) < R := by omega
      clear ho hb h39 HLS HAL HD1 HLL
      go_upto_region 9 with fail
      obtain ⟨fs, hfs⟩ : ∃ fs : List FactP, fs = [(isV (.agg #[.int .i64 dx, .int .i64 dy])), (isV (.bool true)), (isV (.bool false)), (isV (.bool false)), (isV (.slice a7 N c7)), (isV (.int .i64 N)), (isV (.slice (some ⟨gm, om, none⟩) R cm)), (isV (.int .i64 R)), (isV (.slice (some ⟨gm, om, none⟩) R cm)), (isV (.pointer (some ⟨gm, om, none⟩))), (isV (.slice (some ⟨g0, o0, none⟩) C k0)), (isV (.int .i64 C)), (isV (.agg #[.int .i64 dx, .int .i64 dy])), (isV (.int .i64 N)), (isV (.bool false)), (isV (.bool false)), (isV (.bool false)), (isV (.slice a7 N c7)), (isV (.int .i64 B)), (isV (.int .i64 B)), (isV (.bool false)), (isV (.bool false)), (isV (.bool false)), (isV (.slice a7 N c7)), (isV (.slice (some ⟨gm, om, none⟩) R cm)), (isV (.agg #[.int .i64 dx, .int .i64 dy])), (fun u w2 => InRow w2 u LR), (isV (.bool true)), (isV (.bool false))] := ⟨_, rfl⟩
      have hst : ∀ f ∈ fs, StableP f := by
        rw [hfs]; intro f hf
        simp only [List.mem_cons, List.not_mem_nil, or_false] at hf
        rcases hf with rfl | rfl | rfl | rfl | rfl | rfl | rfl | rfl | rfl | rfl | rfl | rfl | rfl | rfl | rfl | rfl | rfl | rfl | rfl | rfl | rfl | rfl | rfl | rfl | rfl | rfl | rfl | rfl | rfl <;> first | exact stable_v _ | exact fun u w2 w3 hb h => inRow_below h hb
      subst hfs
      refine wp_region_g (S := fun w2 => Below w9.heap.size w9 w2) [(isV (.agg #[.int .i64 dx, .int .i64 dy])), (isV (.bool true)), (isV (.bool false)), (isV (.bool false)), (isV (.slice a7 N c7)), (isV (.int .i64 N)), (isV (.slice (some ⟨gm, om, none⟩) R cm)), (isV (.int .i64 R)), (isV (.slice (some ⟨gm, om, none⟩) R cm)), (isV (.pointer (some ⟨gm, om, none⟩))), (isV (.slice (some ⟨g0, o0, none⟩) C k0)), (isV (.int .i64 C)), (isV (.agg #[.int .i64 dx, .int .i64 dy])), (isV (.int .i64 N)), (isV (.bool false)), (isV (.bool false)), (isV (.bool false)), (isV (.slice a7 N c7)), (isV (.int .i64 B)), (isV (.int .i64 B)), (isV (.bool false)), (isV (.bool false)), (isV (.bool false)), (isV (.slice a7 N c7)), (isV (.slice (some ⟨gm, om, none⟩) R cm)), (isV (.agg #[.int .i64 dx, .int .i64 dy])), (fun u w2 => InRow w2 u LR), (isV (.bool true)), (isV (.bool false))] [(3, .slice (some ⟨gm, om, none⟩) R cm), (4, .int .i64 B), (6, .pointer (some ⟨wd.heap.size, 0, none⟩)), (7, .slice a7 N c7)] _ _ 29 (by kernel_rfl) rfl rfl (by kernel_rfl) (by kernel_rfl) rfl (by kernel_rfl) ?base (below_drew (Below.refl _ _)) ?ob rfl ?fin
      case base =>
        intro t v ht
        simp only [List.lookup_cons, List.lookup_nil] at ht
        repeat' split at ht
        all_goals first | (cases ht; done) | (obtain rfl := Option.some.inj ht; rename_i hh; obtain rfl := eq_of_beq hh; rfl)
      case ob =>
        exact ⟨obg_of rfl (obt_one (.agg #[.int .i64 dx, .int .i64 dy]) rfl rfl (srt_b 6 rfl) (fun ρ w2 hS hx => exec_loadDir rfl hx (dirAt_below HD9.out hS))),
          obg_of rfl (obt_call hst [.agg #[.int .i64 dx, .int .i64 dy]] rfl Try.func10 (by kernel_rfl) (by kernel_rfl) rfl ⟨(srt_j 0 rfl (by kernel_rfl) rfl), trivial⟩ (fun w2 hS => (implDirectionOk_any dx dy w2).mono fun e w3 ⟨he, hh⟩ => ⟨_, he.trans (by rw [HDOK.out]), hS.trans (hh.mono hS.size), hh, rfl⟩)),
          obg_of rfl (obt_one (.bool false) rfl rfl (srt_j 1 rfl (by kernel_rfl) rfl) (fun ρ w2 hS hx => by go_simp)),
          obg_of rfl (obt_move (.bool false) rfl rfl rfl (srt_j 2 rfl (by kernel_rfl) rfl)),
          obg_yes 3 rfl rfl (by kernel_rfl) rfl (obt_move (.slice a7 N c7) rfl rfl rfl (srt_b 7 rfl)),
          obg_yes 3 rfl rfl (by kernel_rfl) rfl (obt_one (.int .i64 N) rfl rfl (srt_j 4 rfl (by kernel_rfl) rfl) (fun ρ w2 hS hx => by go_simp)),
          obg_yes 3 rfl rfl (by kernel_rfl) rfl (obt_move (.slice (some ⟨gm, om, none⟩) R cm) rfl rfl rfl (srt_b 3 rfl)),
          obg_yes 3 rfl rfl (by kernel_rfl) rfl (obt_one (.int .i64 R) rfl rfl (srt_j 6 rfl (by kernel_rfl) rfl) (fun ρ w2 hS hx => by go_simp)),
          obg_yes 3 rfl rfl (by kernel_rfl) rfl (obt_move (.slice (some ⟨gm, om, none⟩) R cm) rfl rfl rfl (srt_b 3 rfl)),
          obg_yes 3 rfl rfl (by kernel_rfl) rfl (obt_two (.pointer (some ⟨gm, om, none⟩)) rfl rfl (srt_j 8 rfl (by kernel_rfl) rfl) (srt_c (v := .int .i64 0)) (fun ρ w2 hS hx hy => by go_simp; intro h; omega)),
          obg_yes 3 rfl rfl (by kernel_rfl) rfl (obt_one (.slice (some ⟨g0, o0, none⟩) C k0) rfl rfl (srt_j 9 rfl (by kernel_rfl) rfl) (fun ρ w2 hS hx => by have hc := below_cell hS HGM.out HC0.out; go_simp)),
          obg_yes 3 rfl rfl (by kernel_rfl) rfl (obt_one (.int .i64 C) rfl rfl (srt_j 10 rfl (by kernel_rfl) rfl) (fun ρ w2 hS hx => by go_simp)),
          obg_yes 3 rfl rfl (by kernel_rfl) rfl (obt_one (.agg #[.int .i64 dx, .int .i64 dy]) rfl rfl (srt_b 6 rfl) (fun ρ w2 hS hx => exec_loadDir rfl hx (dirAt_below HD9.out hS))),
          obg_yes 3 rfl rfl (by kernel_rfl) rfl (obt_call hst [.int .i64 R, .int .i64 C, .agg #[.int .i64 dx, .int .i64 dy]] rfl Try.func11 (by kernel_rfl) (by kernel_rfl) rfl ⟨(srt_j 7 rfl (by kernel_rfl) rfl), (srt_j 11 rfl (by kernel_rfl) rfl), (srt_j 12 rfl (by kernel_rfl) rfl), trivial⟩ (fun w2 hS => (implCountLines_yes R C dx dy w2 HSZ.out HDOK.out).mono fun e w3 ⟨he, hh⟩ => ⟨_, he.trans (by rw [← HNC.out]), hS.trans (hh.mono hS.size), hh, rfl⟩)),
          obg_yes 3 rfl rfl (by kernel_rfl) rfl (obt_two (.bool false) rfl rfl (srt_j 5 rfl (by kernel_rfl) rfl) (srt_j 13 rfl (by kernel_rfl) rfl) (fun ρ w2 hS hx hy => by go_simp)),
          obg_of rfl (obt_pick_f (.bool false) rfl rfl rfl (srt_j 3 rfl (by kernel_rfl) rfl) (srt_j 14 rfl (by kernel_rfl) rfl)),
          obg_of rfl (obt_move (.bool false) rfl rfl rfl (srt_j 15 rfl (by kernel_rfl) rfl)),
          obg_yes 16 rfl rfl (by kernel_rfl) rfl (obt_move (.slice a7 N c7) rfl rfl rfl (srt_b 7 rfl)),
          obg_yes 16 rfl rfl (by kernel_rfl) rfl (obt_call hst [.slice a7 N c7] rfl Try.func12 (by kernel_rfl) (by kernel_rfl) rfl ⟨(srt_j 17 rfl (by kernel_rfl) rfl), trivial⟩ (fun w2 hS => (lawTotalT_any _ LR w2 (inRow_below HL9.out hS) HTT.out).mono fun e w3 ⟨he, hw⟩ => ⟨_, he.trans (by rw [HTS.out]), hw ▸ hS, hw ▸ Below.refl _ _, rfl⟩)),
          obg_yes 16 rfl rfl (by kernel_rfl) rfl (obt_move (.int .i64 B) rfl rfl rfl (srt_b 4 rfl)),
          obg_yes 16 rfl rfl (by kernel_rfl) rfl (obt_two (.bool false) rfl rfl (srt_j 18 rfl (by kernel_rfl) rfl) (srt_j 19 rfl (by kernel_rfl) rfl) (fun ρ w2 hS hx hy => by go_simp)),
          obg_of rfl (obt_pick_f (.bool false) rfl rfl rfl (srt_j 16 rfl (by kernel_rfl) rfl) (srt_j 20 rfl (by kernel_rfl) rfl)),
          obg_of rfl (obt_move (.bool false) rfl rfl rfl (srt_j 21 rfl (by kernel_rfl) rfl)),
          obg_yes 22 rfl rfl (by kernel_rfl) rfl (obt_move (.slice a7 N c7) rfl rfl rfl (srt_b 7 rfl)),
          obg_yes 22 rfl rfl (by kernel_rfl) rfl (obt_move (.slice (some ⟨gm, om, none⟩) R cm) rfl rfl rfl (srt_b 3 rfl)),
          obg_yes 22 rfl rfl (by kernel_rfl) rfl (obt_one (.agg #[.int .i64 dx, .int .i64 dy]) rfl rfl (srt_b 6 rfl) (fun ρ w2 hS hx => exec_loadDir rfl hx (dirAt_below HD9.out hS))),
          obg_yes 22 rfl rfl (by kernel_rfl) rfl (obt_call hst [.slice (some ⟨gm, om, none⟩) R cm, .agg #[.int .i64 dx, .int .i64 dy]] rfl Try.func14 (by kernel_rfl) (by kernel_rfl) rfl ⟨(srt_j 24 rfl (by kernel_rfl) rfl), (srt_j 25 rfl (by kernel_rfl) rfl), trivial⟩ (fun w2 hS => (implGridSums_any _ (mkM R C f) dx dy w2 (inMat_below HM9.out hS)).mono fun e w3 ⟨u, he, ho, hh⟩ => ⟨_, he, hS.trans (hh.mono hS.size), hh, by rw [HGS.out] at ho; exact inRow_own ho⟩)),
          obg_yes 22 rfl rfl (by kernel_rfl) rfl (obt_call_r (u := .slice a7 N c7) hst 26 rfl Try.func13 (by kernel_rfl) (by kernel_rfl) rfl rfl (by kernel_rfl) (srt_j 23 rfl (by kernel_rfl) rfl) (fun v w2 hS h1 => (same_any _ v LR LR w2 (inRow_below HL9.out hS) h1).mono fun e w3 ⟨he, hw⟩ => ⟨_, he.trans (by rw [beq_self_eq_true]), hw ▸ hS, hw ▸ Below.refl _ _, rfl⟩)),
          obg_yes 22 rfl rfl (by kernel_rfl) rfl (obt_one (.bool false) rfl rfl (srt_j 27 rfl (by kernel_rfl) rfl) (fun ρ w2 hS hx => by go_simp)),
          trivial⟩
      case fin =>
        intro a' w' h1 h2 h3 hS h4 K hK
        have ha := frame_ov rfl h1 h2 h3 [(27, .agg #[.int .i64 dx, .int .i64 dy]), (28, .bool true), (29, .bool false), (30, .bool false), (31, .slice a7 N c7), (32, .int .i64 N), (33, .slice (some ⟨gm, om, none⟩) R cm), (34, .int .i64 R), (35, .slice (some ⟨gm, om, none⟩) R cm), (36, .pointer (some ⟨gm, om, none⟩)), (37, .slice (some ⟨g0, o0, none⟩) C k0), (38, .int .i64 C), (39, .agg #[.int .i64 dx, .int .i64 dy]), (40, .int .i64 N), (41, .bool false), (42, .bool false), (43, .bool false), (44, .slice a7 N c7), (45, .int .i64 B), (46, .int .i64 B), (47, .bool false), (48, .bool false), (49, .bool false), (50, .slice a7 N c7), (51, .slice (some ⟨gm, om, none⟩) R cm), (52, .agg #[.int .i64 dx, .int .i64 dy]), (53, a'.tmps.getD 53 undef), (54, .bool true), (55, .bool false), (56, a'.tmps.getD 56 undef)] (by kernel_rfl) ⟨h4 0 27 rfl (by decide), h4 1 28 rfl (by decide), h4 2 29 rfl (by decide), h4 3 30 rfl (by decide), h4 4 31 rfl (by decide), h4 5 32 rfl (by decide), h4 6 33 rfl (by decide), h4 7 34 rfl (by decide), h4 8 35 rfl (by decide), h4 9 36 rfl (by decide), h4 10 37 rfl (by decide), h4 11 38 rfl (by decide), h4 12 39 rfl (by decide), h4 13 40 rfl (by decide), h4 14 41 rfl (by decide), h4 15 42 rfl (by decide), h4 16 43 rfl (by decide), h4 17 44 rfl (by decide), h4 18 45 rfl (by decide), h4 19 46 rfl (by decide), h4 20 47 rfl (by decide), h4 21 48 rfl (by decide), h4 22 49 rfl (by decide), h4 23 50 rfl (by decide), h4 24 51 rfl (by decide), h4 25 52 rfl (by decide), rfl, h4 27 54 rfl (by decide), h4 28 55 rfl (by decide), rfl, trivial⟩
        dsimp only [ov, List.lookup, Nat.reduceBEq, Nat.reduceAdd] at ha
        refine run_value (.bool false) (exec_pick_f (v := .bool false) rfl (h4 22 49 rfl (by decide)) (h4 28 55 rfl (by decide))) (hK (.bool false) _ ?_)
        show Exit.then _ _ Exit.normal (Act.put a' (some 56) (.bool false)) _
        rw [ha]
        generalize a'.tmps.getD 53 undef = u53
        generalize a'.tmps.getD 56 undef = u56
        clear ha h1 h2 h3 h4 hst hK
        have HB9 := hide (HBD.out.trans ((HA9.out.trans (hS.mono HA9.out.size)).mono HBD.out.size))
        go_wp2
        go_roundw
        case rel => exact ⟨j + 1, by omega, by go_num, HB9.out⟩
        case measure => simp [intOf]; omega
    · obtain rfl : NL = j := by omega
      have HM4 := hide (inMat_below HM3.out HBD.out)
      have HC4 := hide (below_cell HBD.out HG3.out HC3.out)
      have HG4 := hide (Nat.lt_of_lt_of_le HG3.out HBD.out.size)
      have HB4 := hide (HB3.out.trans (HBD.out.mono HB3.out.size))
      go_wp2_with fail
      refine (implRowSums_yes _ R C f _ HM4.out HI.out).mono ?_
      rintro e w5 ⟨v8, rfl, ho, hb⟩
      obtain ⟨a8, c8, rfl⟩ := own_slice ho
      have HR5 := hide (inRow_own ho)
      rw [rowsL_lenS] at HR5 ⊢
      have HM5 := hide (inMat_below HM4.out hb); have HC5 := hide (below_cell hb HG4.out HC4.out); have HG5 := hide (Nat.lt_of_lt_of_le HG4.out hb.size); have HB5 := hide (HB4.out.trans (hb.mono HB4.out.size))
      clear ho hb
      go_wp2_with fail
      refine (implColSums_yes _ R C f _ HM5.out HI.out).mono ?_
      rintro e w6 ⟨v9, rfl, ho, hb⟩
      obtain ⟨a9, c9, rfl⟩ := own_slice ho
      have HK6 := hide (inRow_own ho)
      rw [rowsL_lenS] at HK6 ⊢
      have HR6 := hide (inRow_below HR5.out hb)
      have HM6 := hide (inMat_below HM5.out hb); have HC6 := hide (below_cell hb HG5.out HC5.out); have HG6 := hide (Nat.lt_of_lt_of_le HG5.out hb.size); have HB6 := hide (HB5.out.trans (hb.mono HB5.out.size))
      clear ho hb
      have HS1 := hide (rows_sum HI.out)
      have HS2 := hide (cols_sum HI.out)
      rw [← HBE.out] at HS1 HS2
      have HT1 := hide (rows_smallT (R := R) (C := C) (f := f) hR5 hC5)
      have HT2 := hide (rows_smallT (R := C) (C := R) (f := trM f) hC5 hR5)
      have HOK := hide (img_sumsOk HI.out)
      have HLS := hide fun (w2 : World) (hm : InMat w2 (.slice (some ⟨gm, om, none⟩) R cm) (mkM R C f)) => implLineSums_yes (.slice (some ⟨gm, om, none⟩) R cm) R C R f 1 0 w2 hm HI.out (by decide) (countL_rows R C).symm (by omega)
      rw [lineRow_rows] at HLS
      have HTR := hide (img_tr HI.out)
      have HTI := hide fun (w2 : World) (hm : InMat w2 (.slice (some ⟨gm, om, none⟩) R cm) (mkM R C f)) => implTransposeOf_yes (.slice (some ⟨gm, om, none⟩) R cm) R C f w2 hm HI.out
      obtain ⟨rr, hrr⟩ : ∃ rr, rr = rowsL R C f := ⟨_, rfl⟩
      obtain ⟨kk, hkk⟩ : ∃ kk, kk = rowsL C R (trM f) := ⟨_, rfl⟩
      have HRI := hide fun (v : Value) (w2 : World) (hm : InMat w2 v (mkM C R (trM f))) => implRowSums_yes v C R (trM f) w2 hm HTR.out
      rw [← hrr] at HR6 HS1 HT1 HOK HLS
      rw [← hkk] at HK6 HS2 HT2 HOK HRI
      have hRp : (0 : Int) < R := by omega
      clear hrr hkk HR5 HM5 HC5 HG5 HB5 HM4 HC4 HG4 HB4
      go_wp2_with (first | ((with_reducible refine (lawTotalT_any (.slice a8 R c8) rr _ HR6.out HT1.out).mono ?_); rw [HS1.out]; rintro e wx ⟨rfl, rfl⟩) | ((with_reducible refine (lawTotalT_any (.slice a9 C c9) kk _ HK6.out HT2.out).mono ?_); rw [HS2.out]; rintro e wx ⟨rfl, rfl⟩) | ((with_reducible refine (HLS.out _ HM6.out).mono ?_); rintro e w7 ⟨u7, rfl, ho, hb⟩; have HU7 := hide (inRow_own ho); have HR7 := hide (inRow_below HR6.out hb); have HK7 := hide (inRow_below HK6.out hb); have HM7 := hide (inMat_below HM6.out hb); have HB7 := hide (HB6.out.trans (hb.mono HB6.out.size)); have hc7 := below_cell hb HG6.out HC6.out; clear ho hb) | ((with_reducible refine (same_any _ _ rr rr _ HR7.out HU7.out).mono ?_); rw [beq_self_eq_true]; rintro e wx ⟨rfl, rfl⟩) | ((with_reducible refine (implSumsOk_any _ _ rr kk _ HR7.out HK7.out).mono ?_); rw [HOK.out]; rintro e w8 ⟨rfl, hb⟩; have HK8 := hide (inRow_below HK7.out hb); have HM8 := hide (inMat_below HM7.out hb); have HB8 := hide (HB7.out.trans (hb.mono HB7.out.size)); clear hb) | ((with_reducible refine (HTI.out _ HM8.out).mono ?_); rintro e w9 ⟨u9, rfl, ho, hb⟩; have HU9 := hide (inMat_own ho); have HK9 := hide (inRow_below HK8.out hb); have HB9 := hide (HB8.out.trans (hb.mono HB8.out.size)); clear ho hb) | ((with_reducible refine (HRI.out _ _ HU9.out).mono ?_); rintro e w10 ⟨u10, rfl, ho, hb⟩; have HU10 := hide (inRow_own ho); have HK10 := hide (inRow_below HK9.out hb); have HB10 := hide (HB9.out.trans (hb.mono HB9.out.size)); clear ho hb) | ((with_reducible refine (same_any _ _ kk kk _ HK10.out HU10.out).mono ?_); rw [beq_self_eq_true]; rintro e wx ⟨rfl, rfl⟩))
      go_ret
      exact ⟨rfl, HB10.out⟩
end Go.Proofs.Ytjnnoabaepmcnaa
