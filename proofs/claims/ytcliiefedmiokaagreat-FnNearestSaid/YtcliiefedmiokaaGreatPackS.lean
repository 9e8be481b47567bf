/-
  Texts of this claim, one behind the other: Pair, Alike, NearF.
-/
import Derived.Test.YtcliiefedmiokaaGreatPackP
import Derived.Test.YtcliiefedmiokaaGreatPackR
import Derived.Test.YtcliiefedmiokaaGreatPackK
import Derived.Test.YtcliiefedmiokaaGreatPackN
/-
  MakePair: two images that switches join.
-/
namespace Go.Proofs.YtcliiefedmiokaaGreat
open Go.RowKit
set_option maxRecDepth 100000

theorem small_num : ((List.range 625).filter fun i => decide (i / 125 ≤ 3 ∧ i / 25 % 5 ≤ 3 ∧ i / 5 % 5 ≤ 3 ∧ i % 5 ≤ 3)).length = 256 := by decide +kernel
theorem len_mono {α : Type} {p q : α → Bool} (h : ∀ x, p x = true → q x = true) : ∀ l : List α, (l.filter p).length ≤ (l.filter q).length
  | [] => Nat.le_refl _
  | x :: l => by
    have := len_mono h l
    cases hp : p x with
    | false =>
      cases hq : q x with
      | false => simpa [List.filter_cons, hp, hq] using this
      | true => simp only [List.filter_cons, hp, hq, if_true, List.length_cons, Bool.false_eq_true, if_false]; omega
    | true => simp only [List.filter_cons, hp, h x hp, if_true, List.length_cons]; omega
theorem sws_small {R C : Nat} {f : Nat → Nat → Int} (hI : Img R C f) (hR : R ≤ 4) (hC : C ≤ 4) : (swsM (mkM R C f)).length ≤ 256 := by
  unfold swsM upS
  rw [List.length_map, ← small_num]
  refine len_mono (fun i h => ?_) _
  obtain ⟨h1, h2, h3, h4⟩ := swB_dec hI h
  rw [decide_eq_true_eq]
  omega
theorem sameF_flipF {R C : Nat} {f g : Nat → Nat → Int} {s : Sw} (hI : Img R C g) (h : SameF R C f g) (hs : swF R C g s = true) : SameF R C f (flipF g s) := by
  obtain ⟨a, b, c, d, rfl, h4⟩ := swF_iff.1 hs
  exact sameF_trans h (sameF_symm (sameF_flip h4 hI))
/-- What MakePair answers. -/
def PairRes (w : World) (e : Ending) (w' : World) : Prop :=
  ∃ (v u : Value) (R C : Nat) (f g : Nat → Nat → Int), e = .returned (.tuple #[v, u]) ∧ Img R C f ∧ Img R C g ∧ SameF R C f g ∧ R ≤ 4 ∧ C ≤ 4 ∧ InMat w' v (mkM R C f) ∧ InMat w' u (mkM R C g) ∧ Below w.heap.size w w'
theorem ownSws_cur {w w' : World} {lo B : Nat} {v : Value} {l : List Sw} (h : OwnSws w lo v l) (hg : w.grownBy w' (some B)) (hB : B < lo) : OwnSws w' lo v l :=
  ownA_grown h hg fun k hk e => by cases hk; have := (h.lt _ e).1; omega
set_option maxHeartbeats 2000000 in
theorem makePair_any (n c : Nat) (a : Option Addr) (w : World) (hin : InBytes w w.heap.size a n) :
    Calls Tryz.prog 22 #[.slice a n c] w (PairRes w) := by
  have HI := hide hin
  clear hin
  go_enter Tryz.func22, Tryz.ntmps22
  go_wp2_with fail
  refine (l01New_big n c a _ _ HI.out).mono ?_
  rintro e w1 ⟨rfl, hc, hb, hlt⟩
  obtain ⟨B, hB⟩ : ∃ B, w.heap.size = B := ⟨_, rfl⟩
  rw [hB] at hc hb hlt HI ⊢
  have HC := hide hc; have HB := hide hb; have HI1 := hide (inBytes_below HI.out hb)
  have HW := hide hB
  clear hc hb hB HI
  go_wp2_with fail
  refine (l02Draw_most B n a 4 _ B (by omega) (by omega) HC.out HI1.out (Nat.le_refl _)).mono ?_
  rintro e w2 ⟨v, R, C, f, rfl, him, ⟨hR, hC⟩, ho, hc, hb⟩
  have hsz := hb.size
  have HC2 := hide hc; have HB2 := hide (HB.out.trans hb); have HI2 := hide (inBytes_below HI1.out hb); have HIM := hide him
  have HV := hide (ownMat_mono ho (show B + 1 ≤ w1.heap.size from hlt) (Nat.le_refl _))
  clear hc hb ho HC HB HI1
  go_wp2_with fail
  refine (l02Copy_any v R C f _ (inMat_own HV.out) HIM.out).mono ?_
  rintro e w3 ⟨u, rfl, hu, hb⟩
  have hsz3 := hb.size
  have HC3 := hide (curAt_below HC2.out hb); have HB3 := hide (HB2.out.trans (hb.mono (by omega))); have HI3 := hide (inBytes_below HI2.out (hb.mono HI2.out.2.1))
  have HV3 := hide (ownMat_mono (ownMat_below HV.out hb) (Nat.le_refl _) hsz3)
  have HU := hide (ownMat_mono hu (show B + 1 ≤ w2.heap.size by omega) (Nat.le_refl _))
  clear hu hb HC2 HB2 HI2 HV
  go_wp2_with fail
  refine (l01Below_any B n a 6 _ B (by omega) (by omega) HC3.out HI3.out (Nat.le_refl _)).mono ?_
  rintro e w4 ⟨x, hx0, hx1, rfl, hc, hg⟩
  obtain ⟨k0, rfl⟩ : ∃ k : Nat, x = k := ⟨x.toNat, by omega⟩
  have hk0 : k0 ≤ 5 := by omega
  have hz4 := hg.size
  have HC4 := hide hc; have HI4 := hide (inBytes_grown HI3.out hg (Nat.le_refl _))
  have HV4 := hide (ownMat_mono (ownMat_cur HV3.out hg (Nat.lt_succ_self _)) (Nat.le_refl _) hz4); have HU4 := hide (ownMat_mono (ownMat_cur HU.out hg (Nat.lt_succ_self _)) (Nat.le_refl _) hz4)
  have HB4 := hide (HB3.out.trans (grown_below hg (fun k hk => by cases hk; exact Nat.le_refl _) (by omega)))
  have HSF : Hid (SameF R C f f) := hide ⟨fun _ _ => rfl, fun _ _ => rfl⟩
  have hB4 : B < w4.heap.size := by omega
  clear hc hg hx0 hx1 HC3 HI3 HV3 HU HB3
  go_wp2
  go_loopw [6, 7] (fun y t w' => ∃ (k : Nat) (g : Nat → Nat → Int) (u : Value), k ≤ 5 ∧ t = .int .i64 k ∧ u = y ∧ Img R C g ∧ SameF R C f g ∧ B < w'.heap.size ∧ OwnMat w' (B + 1) w'.heap.size u (mkM R C g) ∧ OwnMat w' (B + 1) w'.heap.size v (mkM R C f) ∧ CurAt w' B a n ∧ InBytes w' B a n ∧ Below B w w') (fun _ t _ => (intOf t).toNat)
  case atStart => exact ⟨k0, f, _, hk0, rfl, rfl, HIM.out, HSF.out, hB4, HU4.out, HV4.out, HC4.out, HI4.out, HB4.out⟩
  case round =>
    clear HC4 HI4 HV4 HU4 HB4 HSF hB4 hk0 hz4 hsz hsz3 hlt
    obtain ⟨k, g, u, hk, rfl, rfl, hig, hsf, hlt, ho, hv, hc, hi, hb⟩ := hrel
    have HIG := hide hig; have HSF := hide hsf; have HU := hide ho; have HV := hide hv; have HC := hide hc; have HI := hide hi; have HB := hide hb
    clear hig hsf ho hv hc hi hb
    cases k with
    | zero =>
      go_wp2
      go_ret2
      exact ⟨_, _, R, C, f, g, rfl, HIM.out, HIG.out, HSF.out, hR, hC, inMat_own HV.out, inMat_own HU.out, by rw [HW.out]; exact HB.out⟩
    | succ k =>
      have hkI : (0 : Int) < (k : Int) + 1 := by omega
      go_wp2_with fail
      refine (specSwitches_node _ _ (inMat_own HU.out) ⟨g, rfl, HIG.out⟩).mono ?_
      rintro e w6 ⟨sv, rfl, hsv, hb⟩
      have hz6 := hb.size
      obtain ⟨asl, cs, rfl⟩ := ownA_slice hsv
      have HU6 := hide (ownMat_mono (ownMat_below HU.out hb) (Nat.le_refl _) hz6); have HV6 := hide (ownMat_mono (ownMat_below HV.out hb) (Nat.le_refl _) hz6); have HC6 := hide (curAt_below HC.out hb); have HI6 := hide (inBytes_below HI.out (hb.mono HI.out.2.1)); have HB6 := hide (HB.out.trans (hb.mono (by omega)))
      have HSV := hide (ownSws_base hsv (show B + 1 ≤ wr.heap.size from hlt))
      have HSM := hide (sws_small HIG.out hR hC)
      have HAT := hide fun j (h : j < (swsM (mkM R C g)).length) => sws_at ⟨g, rfl, HIG.out⟩ h
      obtain ⟨S, hS⟩ : ∃ S, S = swsM (mkM R C g) := ⟨_, rfl⟩
      rw [← hS] at HSV HSM HAT ⊢
      obtain ⟨N, hN⟩ : ∃ N, N = S.length := ⟨_, rfl⟩
      have HN := hide hN
      rw [← hN] at HSM HAT HSV ⊢
      have hN256 := HSM.out
      clear hsv hb HC HI HU HV HB HSM hS hN
      cases N with
      | zero =>
        go_wp2
        go_roundw
        case rel => exact ⟨k, g, u, by omega, by go_num, rfl, HIG.out, HSF.out, by omega, HU6.out, HV6.out, HC6.out, HI6.out, HB6.out⟩
        case measure => simp [intOf]
      | succ N =>
        have hNI : (0 : Int) < (N : Int) + 1 := by omega
        obtain ⟨gs, cs2, e, -, hgs, -⟩ := ownA_some HSV.out (by rw [← HN.out]; omega)
        injection e with e1 e2 e3
        subst e1
        clear e2 e3
        go_wp2_with fail
        refine (l01Below_any B n a ((N + 1 : Nat) : Int) _ B (by omega) (by omega) HC6.out HI6.out (Nat.le_refl _)).mono ?_
        rintro e w7 ⟨x, hx0, hx1, rfl, hc, hg⟩
        obtain ⟨j, rfl⟩ : ∃ j : Nat, x = j := ⟨x.toNat, by omega⟩
        have hj : j < N + 1 := by omega
        have hjI : (j : Int) < (N : Int) + 1 := by omega
        have hz7 := hg.size
        have HSB := hide (HAT.out j hj)
        have hsc := sws_cell (ownSws_cur HSV.out hg (Nat.lt_succ_self _)) j (by rw [← HN.out]; exact hj)
        obtain ⟨s, hs⟩ : ∃ s, s = S.getD j zeroSw := ⟨_, rfl⟩
        rw [← hs] at HSB hsc
        have HU7 := hide (ownMat_mono (ownMat_cur HU6.out hg (Nat.lt_succ_self _)) (Nat.le_refl _) hz7); have HV7 := hide (ownMat_mono (ownMat_cur HV6.out hg (Nat.lt_succ_self _)) (Nat.le_refl _) hz7)
        have HC7 := hide hc; have HI7 := hide (inBytes_grown HI6.out hg (Nat.le_refl _)); have HB7 := hide (HB6.out.trans (grown_below hg (fun k hk => by cases hk; exact Nat.le_refl _) (by omega)))
        clear hc hg hx0 hx1 hs HU6 HV6 HC6 HI6 HB6 HAT HSV
        go_wp2_with (with_reducible refine wpList_loadSwC hsc 33 rfl rfl _ rfl rfl ?_)
        refine (specApply_node _ _ (inMat_own HU7.out) ⟨g, rfl, HIG.out⟩ HSB.out).mono ?_
        rintro e w8 ⟨y, rfl, hy, hb⟩
        have hz8 := hb.size
        have hsb := HSB.out
        rw [swB_mk HIG.out] at hsb
        rw [flipM_mk HIG.out] at hy
        have HY := hide (ownMat_mono hy (show B + 1 ≤ w7.heap.size by omega) (Nat.le_refl _)); have HFS := hide hsb
        have HV8 := hide (ownMat_mono (ownMat_below HV7.out hb) (Nat.le_refl _) hz8); have HC8 := hide (curAt_below HC7.out hb); have HI8 := hide (inBytes_below HI7.out (hb.mono HI7.out.2.1)); have HB8 := hide (HB7.out.trans (hb.mono (by omega)))
        clear hy hb hsb hsc
        go_wp2
        go_roundw
        case rel => exact ⟨k, flipF g s, y, by omega, by go_num, rfl, flipF_img HIG.out s, sameF_flipF HIG.out HSF.out HFS.out, by omega, HY.out, HV8.out, HC8.out, HI8.out, HB8.out⟩
        case measure => simp [intOf]
end Go.Proofs.YtcliiefedmiokaaGreat
/-
  The helpers of the laws that are no exact ones: same, alike.
-/
namespace Go.Proofs.YtcliiefedmiokaaGreat
open Go.RowKit
set_option maxHeartbeats 1000000 in
theorem same_any (va vb : Value) (r s : List Int) (w : World) (ha : InRow w va r) (hb : InRow w vb s) :
    Calls Tryz.prog 53 #[va, vb] w fun e w' => e = .returned (.bool (r == s)) ∧ w = w' := by
  obtain ⟨a, ca, rfl, hma, hpa⟩ := ha
  obtain ⟨b, cb, rfl, hmb, hpb⟩ := hb
  unfold maxLen at hma hmb
  by_cases hlen : r.length = s.length
  · by_cases h0 : r.length = 0
    · have hr : r = [] := List.eq_nil_of_length_eq_zero h0
      have hs : s = [] := List.eq_nil_of_length_eq_zero (by omega)
      subst hr; subst hs
      clear hpa hpb hma hmb hlen h0
      go_enter Tryz.func53, Tryz.ntmps53
      go_wp2
      go_loop [14] (fun i => i = .int .i64 0) (fun _ => 0)
      case atStart => rfl
      case round =>
        obtain rfl := hrel
        go_wp2
        go_ret
        exact ⟨rfl, rfl⟩
    · obtain ⟨ga, oa, rfl, -, hca⟩ := hpa.resolve_left h0
      obtain ⟨gb, ob, rfl, -, hcb⟩ := hpb.resolve_left (by omega)
      have HA := hide hca; have HB := hide hcb; have HL := hide hlen
      obtain ⟨n, hn⟩ : ∃ n, n = r.length := ⟨_, rfl⟩
      have HN := hide hn
      have HM : Hid (s.length = n) := hide (by omega)
      rw [← hlen, ← hn]
      rw [← hn] at hma
      clear hpa hpb hca hcb h0 hmb hlen hn
      go_enter Tryz.func53, Tryz.ntmps53
      go_wp2
      go_loop [14] (fun i => ∃ k : Nat, k ≤ n ∧ i = .int .i64 k ∧ ∀ t, (h1 : t < r.length) → (h2 : t < s.length) → t < k → r[t] = s[t]) (fun i => n - (intOf i).toNat)
      case atStart => exact ⟨0, Nat.zero_le _, rfl, fun t _ _ h => absurd h (Nat.not_lt_zero _)⟩
      case round =>
        obtain ⟨k, hk, rfl, hall⟩ := hrel
        have HH := hide hall
        clear hall
        by_cases hlt : k < n
        · have hkr : k < r.length := by rw [← HN.out]; exact hlt
          have hks : k < s.length := by rw [HM.out]; exact hlt
          have hxa := HA.out k hkr
          have hxb := HB.out k hks
          have HNO := hide (fun h => sameRow_no2 k hkr hks h)
          have HST : Hid (r[k] = s[k] → ∀ t, (h1 : t < r.length) → (h2 : t < s.length) → t < k + 1 → r[t] = s[t]) := hide fun h t h1 h2 ht => by
            by_cases e : t = k
            · subst e; exact h
            · exact HH.out t h1 h2 (by omega)
          obtain ⟨x, hx⟩ : ∃ x, x = r[k] := ⟨_, rfl⟩
          obtain ⟨y, hy⟩ : ∃ y, y = s[k] := ⟨_, rfl⟩
          rw [← hx, ← hy] at HNO HST
          rw [← hx] at hxa
          rw [← hy] at hxb
          clear hx hy
          by_cases e : x = y
          · subst e
            have HST := hide (HST.out rfl)
            go_wp2
            go_round
            case rel => exact ⟨k + 1, by omega, by go_num, HST.out⟩
            case measure => simp [intOf]; omega
          · have HF := hide (HNO.out e)
            have hne : (x == y) = false := by simpa using e
            have hne2 : (x != y) = true := by simpa using e
            clear e
            go_wp2
            go_ret
            exact ⟨ret_bool HF.out.symm, rfl⟩
        · have HY := hide (sameRow_yes HL.out fun t h1 h2 => HH.out t h1 h2 (by have := HN.out; omega))
          go_wp2
          go_ret
          exact ⟨ret_bool HY.out.symm, rfl⟩
  · have HF := hide (sameRow_no hlen)
    obtain ⟨n, hn⟩ : ∃ n, n = r.length := ⟨_, rfl⟩
    obtain ⟨k, hk⟩ : ∃ k, k = s.length := ⟨_, rfl⟩
    rw [← hn, ← hk] at hlen ⊢
    rw [← hn] at hma
    rw [← hk] at hmb
    have hne : ((n : Int) == (k : Int)) = false := by simp; omega
    have hne2 : ((n : Int) != (k : Int)) = true := by simp; omega
    clear hpa hpb hn hk hlen
    go_enter Tryz.func53, Tryz.ntmps53
    go_wp2
    go_ret
    exact ⟨ret_bool HF.out.symm, rfl⟩


set_option maxHeartbeats 1000000 in
theorem alike_any (va vb : Value) (m l : List (List Int)) (w : World) (ha : InMat w va m) (hb : InMat w vb l) :
    Calls Tryz.prog 26 #[va, vb] w fun e w' => e = .returned (.bool (m == l)) ∧ Below w.heap.size w w' := by
  obtain ⟨a, ca, rfl, hma, hpa⟩ := ha
  obtain ⟨b, cb, rfl, hmb, hpb⟩ := hb
  unfold maxLen at hma hmb
  by_cases hlen : m.length = l.length
  · by_cases h0 : m.length = 0
    · have hr : m = [] := List.eq_nil_of_length_eq_zero h0
      have hs : l = [] := List.eq_nil_of_length_eq_zero (by omega)
      subst hr; subst hs
      clear hpa hpb hma hmb hlen h0
      go_enter Tryz.func26, Tryz.ntmps26
      go_wp2
      go_loop [14] (fun i => i = .int .i64 0) (fun _ => 0)
      case atStart => rfl
      case round =>
        obtain rfl := hrel
        go_wp2
        go_ret
        exact ⟨rfl, Below.refl _ _⟩
    · obtain ⟨ga, oa, rfl, hga, hca⟩ := hpa.resolve_left h0
      obtain ⟨gb, ob, rfl, hgb, hcb⟩ := hpb.resolve_left (by omega)
      have HA := hide hca; have HB := hide hcb; have HL := hide hlen
      obtain ⟨n, hn⟩ : ∃ n, n = m.length := ⟨_, rfl⟩
      have HN := hide hn
      have HM : Hid (l.length = n) := hide (by omega)
      rw [← hlen, ← hn]
      rw [← hn] at hma
      clear hpa hpb hca hcb h0 hmb hlen hn
      go_enter Tryz.func26, Tryz.ntmps26
      go_wp2
      go_loopw [14] (fun i w' => ∃ k : Nat, k ≤ n ∧ i = .int .i64 k ∧ (∀ t, (h1 : t < m.length) → (h2 : t < l.length) → t < k → (m[t] == l[t]) = true) ∧ Below w.heap.size w w') (fun i _ => n - (intOf i).toNat)
      case atStart => exact ⟨0, Nat.zero_le _, rfl, fun t _ _ h => absurd h (Nat.not_lt_zero _), Below.refl _ _⟩
      case round =>
        obtain ⟨k, hk, rfl, hall, hbb⟩ := hrel
        have HH := hide hall; have HBB := hide hbb
        clear hall hbb
        by_cases hlt : k < n
        · have hkr : k < m.length := by rw [← HN.out]; exact hlt
          have hks : k < l.length := by rw [HM.out]; exact hlt
          obtain ⟨ua, hxa, hra⟩ := HA.out k hkr
          obtain ⟨ub, hxb, hrb⟩ := HB.out k hks
          have hxa := below_cell HBB.out hga hxa
          have hxb := below_cell HBB.out hgb hxb
          have HRA := hide (inRow_below hra HBB.out)
          have HRB := hide (inRow_below hrb HBB.out)
          have HNO := hide (fun h => sameMat_no2 k hkr hks h)
          have HST : Hid ((m[k] == l[k]) = true → ∀ t, (h1 : t < m.length) → (h2 : t < l.length) → t < k + 1 → (m[t] == l[t]) = true) := hide fun h t h1 h2 ht => by
            by_cases e : t = k
            · subst e; exact h
            · exact HH.out t h1 h2 (by omega)
          clear hra hrb
          cases e : (m[k] == l[k]) with
          | true =>
            have HE := hide e
            have HST := hide (HST.out e)
            clear e
            go_wp2_with (go_at_call 53; refine (same_any _ _ _ _ _ HRA.out HRB.out).mono ?_; rw [HE.out]; rintro e w9 ⟨rfl, rfl⟩)
            go_roundw
            case rel => exact ⟨k + 1, by omega, by go_num, HST.out, HBB.out⟩
            case measure => simp [intOf]; omega
          | false =>
            have HE := hide e
            have HF := hide (HNO.out e)
            clear e
            go_wp2_with (go_at_call 53; refine (same_any _ _ _ _ _ HRA.out HRB.out).mono ?_; rw [HE.out]; rintro e w9 ⟨rfl, rfl⟩)
            go_ret
            exact ⟨ret_bool HF.out.symm, HBB.out⟩
        · have HY := hide (sameMat_yes HL.out fun t h1 h2 => HH.out t h1 h2 (by have := HN.out; omega))
          go_wp2
          go_ret
          exact ⟨ret_bool HY.out.symm, HBB.out⟩
  · have HF := hide (sameMat_no hlen)
    obtain ⟨n, hn⟩ : ∃ n, n = m.length := ⟨_, rfl⟩
    obtain ⟨k, hk⟩ : ∃ k, k = l.length := ⟨_, rfl⟩
    rw [← hn, ← hk] at hlen ⊢
    rw [← hn] at hma
    rw [← hk] at hmb
    have hne : ((n : Int) == (k : Int)) = false := by simp; omega
    have hne2 : ((n : Int) != (k : Int)) = true := by simp; omega
    clear hpa hpb hn hk hlen
    go_enter Tryz.func26, Tryz.ntmps26
    go_wp2
    go_ret
    exact ⟨ret_bool HF.out.symm, Below.refl _ _⟩

theorem alike_yes (va vb : Value) (m : List (List Int)) (w : World) (ha : InMat w va m) (hb : InMat w vb m) :
    Calls Tryz.prog 26 #[va, vb] w fun e w' => e = .returned (.bool true) ∧ Below w.heap.size w w' := by
  have h := alike_any va vb m m w ha hb
  rw [beq_self_eq_true] at h; exact h
end Go.Proofs.YtcliiefedmiokaaGreat
/-
  The law FnNearest, walked.
-/
namespace Go.Proofs.YtcliiefedmiokaaGreat
open Go.RowKit
set_option linter.unusedVariables false

/-- In how many cells two images differ. -/
def dN (R C : Nat) (f g : Nat → Nat → Int) : Nat := cnt (fun i => imgF R C f i != imgF R C g i) 25
theorem imgF_cellM (R C : Nat) (f : Nat → Nat → Int) : imgF R C (cellM (mkM R C f)) = imgF R C f := by
  funext i
  unfold imgF
  split
  · rename_i h; exact cell_mk R C f h.1 h.2
  · rfl
theorem cntz1 {p : Nat → Bool} : ∀ n, cnt p n = 0 → ∀ i, i < n → p i = false
  | 0, _, i, hi => by omega
  | n + 1, h, i, hi => by
    cases hp : p n with
    | true => rw [cnt_yes hp] at h; omega
    | false =>
      rw [cnt_no hp] at h
      by_cases e : i = n
      · subst e; exact hp
      · exact cntz1 n h i (by omega)
theorem cntz2 {p : Nat → Bool} : ∀ n, (∀ i, i < n → p i = false) → cnt p n = 0
  | 0, _ => rfl
  | n + 1, h => by rw [cnt_no (h n (by omega))]; exact cntz2 n fun i hi => h i (by omega)
theorem dN_self (R C : Nat) (f : Nat → Nat → Int) : dN R C f f = 0 := cntz2 25 fun i _ => by simp
theorem dN_zero {R C : Nat} {f g : Nat → Nat → Int} (hR : R ≤ 5) (hC : C ≤ 5) (h : dN R C f g = 0) : mkM R C f = mkM R C g :=
  mkM_congr fun y x hy hx => by
    have := cntz1 25 h (5 * y + x) (by omega)
    rw [imgF_at _ _ _ _ _ (by omega), imgF_at _ _ _ _ _ (by omega), if_pos ⟨hy, hx⟩, if_pos ⟨hy, hx⟩] at this
    simpa using this
theorem near_facts {R C : Nat} {f g p : Nat → Nat → Int} (hI : Img R C f) (hJ : Img R C g) (hs : SameF R C f g) (hP : Img R C p) :
    nearB (rowsL R C f) (rowsL C R (trM f)) (mkM R C p) = true ∧ ∃ q, nearP (rowsL R C f) (rowsL C R (trM f)) (mkM R C p) = (mkM R C q, (dN R C q p : Int)) ∧ Img R C q ∧ sameB (mkM R C q) (mkM R C f) = true ∧ dN R C q p ≤ dN R C f p ∧ dN R C q p ≤ dN R C g p := by
  have hB : nearB (rowsL R C f) (rowsL C R (trM f)) (mkM R C p) = true := by
    unfold nearB
    rw [exists_I hI, img_ok hP, mkM_len, width_mkM hP.r1, rows_len, rows_len, beq_self_eq_true, beq_self_eq_true]; rfl
  have hval : ∀ m, nearF (rowsL R C f) (rowsL C R (trM f)) (mkM R C p) m = -(dN R C (cellM m) p : Int) := fun m => by
    unfold nearF nearN dN
    rw [rows_len, rows_len, imgF_cellM]
  refine ⟨hB, ?_⟩
  obtain ⟨z, hz, hz1, hz2, hz3⟩ := bestF_some (vf := nearF (rowsL R C f) (rowsL C R (trM f)) (mkM R C p)) (allL_ne (exists_I hI))
  obtain ⟨h1, h2, h3⟩ := allL_I hI hz1
  rw [hval] at hz2
  have hcm : ∀ k, dN R C (cellM (mkM R C k)) p = dN R C k p := fun k => by unfold dN; rw [imgF_cellM]
  have hf := hz3 _ (mem_I hI hI (sameF_refl R C f))
  have hg := hz3 _ (mem_I hI hJ hs)
  rw [hval, hcm] at hf hg
  refine ⟨cellM z.1, ?_, h2, sameB_okI h2 hI h3, by omega, by omega⟩
  unfold nearP pickP
  rw [hB, if_pos rfl, hz, Option.getD_some, ← h1, hz2, Int.neg_neg]
theorem near_self {R C : Nat} {f : Nat → Nat → Int} (hI : Img R C f) : nearB (rowsL R C f) (rowsL C R (trM f)) (mkM R C f) = true ∧ nearP (rowsL R C f) (rowsL C R (trM f)) (mkM R C f) = (mkM R C f, 0) := by
  obtain ⟨h1, q, h2, h3, -, h5, -⟩ := near_facts hI hI (sameF_refl R C f) hI
  rw [dN_self] at h5
  refine ⟨h1, ?_⟩
  rw [h2, dN_zero hI.r2 hI.c2 (show dN R C q f = 0 by omega), show dN R C q f = 0 by omega]; rfl
theorem near_yes (va vb vp : Value) (r c : List Int) (p q : List (List Int)) (n : Int) (w : World) (ha : RowC w va r) (hb : RowC w vb c) (hp : InMat w vp p) (h1 : nearB r c p = true) (h2 : nearP r c p = (q, n)) :
    Calls Tryz.prog 24 #[va, vb, vp] w (PickRes q n true w) := by
  have := implNearest_any va vb vp r c p w ha hb hp
  rw [h1, h2] at this; exact this
theorem dist_yes (v u : Value) (R C n : Nat) (f g : Nat → Nat → Int) (w : World) (hin : InMat w v (mkM R C f)) (hin2 : InMat w u (mkM R C g)) (h : Img R C f) (h' : Img R C g) (hn : dN R C f g = n) :
    Calls Tryz.prog 25 #[v, u] w fun e w' => e = .returned (.int .i64 n) ∧ Below w.heap.size w w' := by
  have := implDistanceOf_yes v u R C R C f g w hin hin2 h h'
  rw [if_pos ⟨rfl, rfl⟩] at this
  subst hn
  exact this
set_option maxRecDepth 100000 in
set_option maxHeartbeats 8000000 in
theorem lawNearest_walk (a : Option Addr) (n c : Nat) (w : World) (hin : InBytes w w.heap.size a n) :
    Calls Tryz.prog 5 #[.slice a n c] w fun e w' => e = .returned (.bool true) ∧ Below w.heap.size w w' := by
  have hmax := hin.1
  unfold maxLen at hmax
  by_cases hbig : 1048576 < n
  · go_enter Tryz.func5, Tryz.ntmps5
    clear hin
    go_wp2
    go_ret
    exact ⟨rfl, Below.refl _ _⟩
  · have HIN := hide hin
    clear hin
    go_enter Tryz.func5, Tryz.ntmps5
    have HB := hide (Below.refl w.heap.size w)
    go_wp2_with fail
    refine (makePair_any n c a _ HIN.out).mono ?_
    rintro e w1 ⟨v, u, R, C, f, g, rfl, hI, hJ, hsf, hR4, hC4, hv, hu, hb⟩
    have hs1 := hb.size
    replace HB := hide (HB.out.trans (hb.mono HB.out.size))
    have HM := hide (hv)
    have HG := hide (hu)
    clear hb
    have HI := hide hI; have HJ := hide hJ; have HSF := hide hsf
    have hR := hI.r2; have hR1 := hI.r1; have hC := hI.c2; have hC1 := hI.c1
    have HEI := hide (show InBytes w1 w.heap.size a n from inBytes_below HIN.out HB.out)
    obtain ⟨ua, uc, rfl⟩ := inMat_sliceI HG.out
    obtain ⟨mg, mo, mc, rfl, hmg, hmcell⟩ := inMat_img HM.out (by omega) (by omega)
    obtain ⟨g0, o0, c0, hx0, -⟩ := hmcell 0 (by omega)
    rw [Nat.add_zero] at hx0
    clear hI hJ hsf hv hu hmg hmcell hR4 hC4
    go_wp2_with fail
    refine (makeSized_any n c a 30 R C _ _ HEI.out (by omega) (by omega) ⟨hR1, hR⟩ ⟨hC1, hC⟩).mono ?_
    rintro e w2 ⟨pv, p, rfl, hP, ho, hb⟩
    have hs2 := hb.size
    replace HM := hide (inMat_below HM.out hb)
    replace HG := hide (inMat_below HG.out hb)
    replace HB := hide (HB.out.trans (hb.mono HB.out.size))
    have HPM := hide (inMat_own ho)
    clear hb
    have HP := hide hP
    clear ho hx0 HEI
    obtain ⟨pa, pc, rfl⟩ := inMat_sliceI HPM.out
    obtain ⟨hnb, q, hnp, hQ, hsb, hd1, hd2⟩ := near_facts HI.out HJ.out HSF.out hP
    obtain ⟨hnb2, hnp2⟩ := near_self HI.out
    have HNB := hide hnb; have HNP := hide hnp; have HQ := hide hQ; have HSB := hide hsb; have HNB2 := hide hnb2; have HNP2 := hide hnp2
    obtain ⟨d0, hd0⟩ : ∃ d0, d0 = dN R C q p := ⟨_, rfl⟩
    obtain ⟨d1, hdd1⟩ : ∃ d1, d1 = dN R C f p := ⟨_, rfl⟩
    obtain ⟨d2, hdd2⟩ : ∃ d2, d2 = dN R C g p := ⟨_, rfl⟩
    rw [← hd0] at hd1 hd2 HNP
    rw [← hdd1] at hd1
    rw [← hdd2] at hd2
    have HD0 := hide hd0.symm; have HD1 := hide hdd1.symm; have HD2 := hide hdd2.symm
    have hd1I : (d0 : Int) ≤ d1 := by omega
    have hd2I : (d0 : Int) ≤ d2 := by omega
    clear hP hnb hnp hQ hsb hnb2 hnp2 hd0 hdd1 hdd2 hd1 hd2
    go_wp2_with fail
    refine (implRowSums_yes (.slice (some ⟨mg, mo, none⟩) R mc) R C f _ HM.out HI.out).mono ?_
    rintro e w3 ⟨rv1, rfl, ho, hb⟩
    have hs3 := hb.size
    replace HM := hide (inMat_below HM.out hb)
    replace HG := hide (inMat_below HG.out hb)
    replace HPM := hide (inMat_below HPM.out hb)
    replace HB := hide (HB.out.trans (hb.mono HB.out.size))
    have HR1 := hide (rowC_own ho)
    clear hb
    clear ho
    go_wp2_with fail
    refine (implColSums_yes (.slice (some ⟨mg, mo, none⟩) R mc) R C f _ HM.out HI.out).mono ?_
    rintro e w4 ⟨cv1, rfl, ho, hb⟩
    have hs4 := hb.size
    replace HM := hide (inMat_below HM.out hb)
    replace HG := hide (inMat_below HG.out hb)
    replace HPM := hide (inMat_below HPM.out hb)
    replace HR1 := hide (rowC_below HR1.out hb)
    replace HB := hide (HB.out.trans (hb.mono HB.out.size))
    have HC1 := hide (rowC_own ho)
    clear hb
    clear ho
    go_wp2_with fail
    refine (near_yes rv1 cv1 (.slice pa R pc) _ _ _ _ _ _ HR1.out HC1.out HPM.out HNB.out HNP.out).mono ?_
    rintro e w5 ⟨xv, rfl, ho, hb⟩
    have hs5 := hb.size
    replace HM := hide (inMat_below HM.out hb)
    replace HG := hide (inMat_below HG.out hb)
    replace HPM := hide (inMat_below HPM.out hb)
    replace HR1 := hide (rowC_below HR1.out hb)
    replace HC1 := hide (rowC_below HC1.out hb)
    replace HB := hide (HB.out.trans (hb.mono HB.out.size))
    have HXM := hide (inMat_own ho)
    clear hb
    clear ho
    obtain ⟨xa, xc, rfl⟩ := inMat_sliceI HXM.out
    clear HR1
    clear HC1
    go_wp2_with fail
    refine (implRowSums_yes (.slice (some ⟨mg, mo, none⟩) R mc) R C f _ HM.out HI.out).mono ?_
    rintro e w6 ⟨rv2, rfl, ho, hb⟩
    have hs6 := hb.size
    replace HM := hide (inMat_below HM.out hb)
    replace HG := hide (inMat_below HG.out hb)
    replace HPM := hide (inMat_below HPM.out hb)
    replace HXM := hide (inMat_below HXM.out hb)
    replace HB := hide (HB.out.trans (hb.mono HB.out.size))
    have HR2 := hide (rowC_own ho)
    clear hb
    clear ho
    go_wp2_with fail
    refine (implColSums_yes (.slice (some ⟨mg, mo, none⟩) R mc) R C f _ HM.out HI.out).mono ?_
    rintro e w7 ⟨cv2, rfl, ho, hb⟩
    have hs7 := hb.size
    replace HM := hide (inMat_below HM.out hb)
    replace HG := hide (inMat_below HG.out hb)
    replace HPM := hide (inMat_below HPM.out hb)
    replace HXM := hide (inMat_below HXM.out hb)
    replace HR2 := hide (rowC_below HR2.out hb)
    replace HB := hide (HB.out.trans (hb.mono HB.out.size))
    have HC2 := hide (rowC_own ho)
    clear hb
    clear ho
    go_wp2_with fail
    refine (near_yes rv2 cv2 (.slice (some ⟨mg, mo, none⟩) R mc) _ _ _ _ _ _ HR2.out HC2.out HM.out HNB2.out HNP2.out).mono ?_
    rintro e w8 ⟨yv, rfl, ho, hb⟩
    have hs8 := hb.size
    replace HM := hide (inMat_below HM.out hb)
    replace HG := hide (inMat_below HG.out hb)
    replace HPM := hide (inMat_below HPM.out hb)
    replace HXM := hide (inMat_below HXM.out hb)
    replace HR2 := hide (rowC_below HR2.out hb)
    replace HC2 := hide (rowC_below HC2.out hb)
    replace HB := hide (HB.out.trans (hb.mono HB.out.size))
    have HYM := hide (inMat_own ho)
    clear hb
    clear ho
    obtain ⟨ya, yc, rfl⟩ := inMat_sliceI HYM.out
    clear HR2
    clear HC2
    go_wp2_with fail
    refine (same_okI (.slice xa R xc) (.slice (some ⟨mg, mo, none⟩) R mc) _ _ _ HXM.out HM.out HSB.out).mono ?_
    rintro e w9 ⟨rfl, hb⟩
    have hs9 := hb.size
    replace HM := hide (inMat_below HM.out hb)
    replace HG := hide (inMat_below HG.out hb)
    replace HPM := hide (inMat_below HPM.out hb)
    replace HXM := hide (inMat_below HXM.out hb)
    replace HYM := hide (inMat_below HYM.out hb)
    replace HB := hide (HB.out.trans (hb.mono HB.out.size))
    clear hb
    go_wp2_with fail
    refine (dist_yes (.slice xa R xc) (.slice pa R pc) R C d0 q p _ HXM.out HPM.out HQ.out HP.out HD0.out).mono ?_
    rintro e w10 ⟨rfl, hb⟩
    have hs10 := hb.size
    replace HM := hide (inMat_below HM.out hb)
    replace HG := hide (inMat_below HG.out hb)
    replace HPM := hide (inMat_below HPM.out hb)
    replace HXM := hide (inMat_below HXM.out hb)
    replace HYM := hide (inMat_below HYM.out hb)
    replace HB := hide (HB.out.trans (hb.mono HB.out.size))
    clear hb
    go_wp2_with fail
    refine (dist_yes (.slice (some ⟨mg, mo, none⟩) R mc) (.slice pa R pc) R C d1 f p _ HM.out HPM.out HI.out HP.out HD1.out).mono ?_
    rintro e w11 ⟨rfl, hb⟩
    have hs11 := hb.size
    replace HM := hide (inMat_below HM.out hb)
    replace HG := hide (inMat_below HG.out hb)
    replace HPM := hide (inMat_below HPM.out hb)
    replace HXM := hide (inMat_below HXM.out hb)
    replace HYM := hide (inMat_below HYM.out hb)
    replace HB := hide (HB.out.trans (hb.mono HB.out.size))
    clear hb
    go_wp2_with fail
    refine (dist_yes (.slice ua R uc) (.slice pa R pc) R C d2 g p _ HG.out HPM.out HJ.out HP.out HD2.out).mono ?_
    rintro e w12 ⟨rfl, hb⟩
    have hs12 := hb.size
    replace HM := hide (inMat_below HM.out hb)
    replace HG := hide (inMat_below HG.out hb)
    replace HPM := hide (inMat_below HPM.out hb)
    replace HXM := hide (inMat_below HXM.out hb)
    replace HYM := hide (inMat_below HYM.out hb)
    replace HB := hide (HB.out.trans (hb.mono HB.out.size))
    clear hb
    go_wp2_with fail
    refine (alike_yes (.slice ya R yc) (.slice (some ⟨mg, mo, none⟩) R mc) _ _ HYM.out HM.out).mono ?_
    rintro e w13 ⟨rfl, hb⟩
    have hs13 := hb.size
    replace HM := hide (inMat_below HM.out hb)
    replace HG := hide (inMat_below HG.out hb)
    replace HPM := hide (inMat_below HPM.out hb)
    replace HXM := hide (inMat_below HXM.out hb)
    replace HYM := hide (inMat_below HYM.out hb)
    replace HB := hide (HB.out.trans (hb.mono HB.out.size))
    clear hb
    go_wp2
    go_ret
    exact ⟨rfl, HB.out⟩
end Go.Proofs.YtcliiefedmiokaaGreat
