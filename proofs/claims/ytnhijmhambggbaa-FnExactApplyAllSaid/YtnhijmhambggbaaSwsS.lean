/-
  SwitchesOf of the model.
-/
import Derived.Test.YtnhijmhambggbaaSwL
import Derived.Test.YtnhijmhambggbaaSwS
namespace Go.Proofs.Ytnhijmhambggbaa
open Go.RowKit

theorem swB_dec {R C : Nat} {f : Nat → Nat → Int} (hI : Img R C f) {i : Nat} (h : swB (mkM R C f) (decS i) = true) : i / 125 < i / 25 % 5 ∧ i / 5 % 5 < i % 5 ∧ i / 25 % 5 < R ∧ i % 5 < C := by
  rw [swB_mk hI] at h
  obtain ⟨a, b, c, d, e1, h1⟩ := swF_iff.1 h
  obtain ⟨h2, h3, h4, h5, -⟩ := four_iff.1 h1
  unfold decS at e1
  simp only [Sw.mk.injEq] at e1
  omega
theorem upS_to {R C : Nat} {f : Nat → Nat → Int} (hI : Img R C f) {k l : Nat} (hkl : k ≤ l) (h : ∀ i, k ≤ i → i < l → i / 125 < i / 25 % 5 → i / 5 % 5 < i % 5 → i / 25 % 5 < R → i % 5 < C → False) : upS (mkM R C f) l = upS (mkM R C f) k :=
  upS_skip hkl fun i h1 h2 => by
    rw [Bool.eq_false_iff]
    intro e
    obtain ⟨g1, g2, g3, g4⟩ := swB_dec hI e
    exact h i h1 h2 g1 g2 g3 g4
set_option maxHeartbeats 400000 in
theorem specSwitchesOf_no (v : Value) (m : List (List Int)) (w : World) (hin : InMat w v m) (h : okB m = false) :
    Calls Try.prog 36 #[v] w (SwsRes [] w) := by
  have HI := hide hin; have H := hide h
  clear hin h
  go_enter Try.func36, Try.ntmps36
  go_wp2_with ((with_reducible refine (specImageOk_any v m _ HI.out).mono ?_); rw [H.out]; rintro e w' ⟨rfl, rfl⟩)
  go_ret
  exact ⟨_, rfl, ownSws_nil _ _, Below.refl _ _⟩
set_option maxRecDepth 100000 in
set_option maxHeartbeats 4000000 in
theorem specSwitchesOf_yes (v : Value) (R C : Nat) (f : Nat → Nat → Int) (w : World) (hin : InMat w v (mkM R C f)) (hI : Img R C f) :
    Calls Try.prog 36 #[v] w (SwsRes (swsM (mkM R C f)) w) := by
  have hR := hI.r2; have hC := hI.c2; have hR1 := hI.r1; have hC1 := hI.c1
  have HI := hide hin; have H := hide (img_ok hI)
  have HOK := hide fun s v w h => specSwitchOk_img v R C f s w h hI
  have HB' : Hid (∀ s, swF R C f s = swB (mkM R C f) s) := hide fun s => by rw [swB_mk hI]
  have T1 := hide fun a (_ : a < 5) => upS_to (f := f) hI (k := 125 * a) (l := 125 * a + 25 * (a + 1)) (by omega) fun i _ _ _ _ _ _ => by omega
  have T2 := hide fun a b x (_ : a < 5) (_ : b < 5) (_ : x < 5) => upS_to (f := f) hI (k := 125 * a + 25 * b + 5 * x) (l := 125 * a + 25 * b + 5 * x + (x + 1)) (by omega) fun i _ _ _ _ _ _ => by omega
  have T3 := hide fun a b x (_ : a < 5) (_ : b < 5) (_ : x < 5) => upS_to (f := f) hI (k := 125 * a + 25 * b + 5 * x + C) (l := 125 * a + 25 * b + 5 * (x + 1)) (by omega) fun i _ _ _ _ _ _ => by omega
  have T4 := hide fun a b (_ : a < 5) (_ : b < 5) => upS_to (f := f) hI (k := 125 * a + 25 * b + 5 * C) (l := 125 * a + 25 * (b + 1)) (by omega) fun i _ _ _ _ _ _ => by omega
  have T5 := hide fun a (_ : a < 5) => upS_to (f := f) hI (k := 125 * a + 25 * R) (l := 125 * (a + 1)) (by omega) fun i _ _ _ _ _ _ => by omega
  have T6 := hide (upS_to (f := f) hI (k := 125 * R) (l := 625) (by omega) fun i _ _ _ _ _ _ => by omega)
  have HDEC : Hid (∀ a b x y : Nat, b < 5 → x < 5 → y < 5 → decS (125 * a + 25 * b + 5 * x + y) = ⟨a, b, x, y⟩) := hide fun a b x y _ _ _ => by
    unfold decS
    rw [show (125 * a + 25 * b + 5 * x + y) / 125 = a by omega, show (125 * a + 25 * b + 5 * x + y) / 25 % 5 = b by omega, show (125 * a + 25 * b + 5 * x + y) / 5 % 5 = x by omega, show (125 * a + 25 * b + 5 * x + y) % 5 = y by omega]
  obtain ⟨g0, o0, c0, rfl, hg0, hcell⟩ := inMat_img hin (by omega) (by omega)
  obtain ⟨g1, o1, k1, r0, -⟩ := hcell 0 (by omega)
  rw [Nat.add_zero] at r0
  have HR0 := hide r0
  show Calls _ _ _ _ (SwsRes (upS (mkM R C f) 625) w)
  obtain ⟨m, hm⟩ : ∃ m, m = mkM R C f := ⟨_, rfl⟩
  rw [← hm] at T1 T2 T3 T4 T5 T6 HB' H HI ⊢
  rw [← hm] at HOK
  have HLEN := hide (upS_len m)
  have HYES := hide (fun k h => upS_yes (m := m) (k := k) h)
  have HNO := hide (fun k h => upS_no (m := m) (k := k) h)
  clear hm hin hI hcell r0
  go_enter Try.func36, Try.ntmps36
  go_wp2_with ((with_reducible refine (specImageOk_any _ m _ HI.out).mono ?_); rw [H.out]; rintro e w' ⟨rfl, rfl⟩)
  have HO : Hid (OwnSws (w.alloc (.cells #[] 42)) w.heap.size (.slice (some ⟨w.heap.size, 0, none⟩) 0 0) []) := hide (World.ownsRow_made (base := w.heap.size) w #[] 0 (Nat.le_refl _) (Nat.zero_le _) rfl)
  have HB := hide ((Below.refl w.heap.size w).alloc (Nat.le_refl _) (.cells #[] 42))
  generalize w.alloc (.cells #[] 42) = w1 at HO HB ⊢
  go_loopw [3, 15] (fun u t w' => ∃ (a : Nat) (v : Value), a ≤ R ∧ t = .int .i64 a ∧ v = u ∧ OwnSws w' w.heap.size v (upS m (125 * a)) ∧ Below w.heap.size w w') (fun _ t _ => R - (intOf t).toNat)
  case atStart => exact ⟨0, _, by omega, rfl, rfl, HO.out, HB.out⟩
  case round =>
    clear HO HB
    obtain ⟨a, v, ha, rfl, rfl, ho, hb⟩ := hrel
    have HO := hide ho; have HB := hide hb
    clear ho hb
    by_cases hla : a < R
    · have haI : (a : Int) < R := by omega
      rw [← T1.out a (by omega)] at HO
      go_wp2
      go_loopw [3, 5] (fun u t w' => ∃ (b : Nat) (v : Value), (a + 1 ≤ b ∧ b ≤ R) ∧ t = .int .i64 b ∧ v = u ∧ OwnSws w' w.heap.size v (upS m (125 * a + 25 * b)) ∧ Below w.heap.size w w') (fun _ t _ => R - (intOf t).toNat)
      case atStart => exact ⟨a + 1, _, by omega, by go_num, rfl, HO.out, HB.out⟩
      case round =>
        clear HO HB
        obtain ⟨b, v, ⟨hb1, hb2⟩, rfl, rfl, ho, hb⟩ := hrel
        have HO := hide ho; have HB := hide hb
        clear ho hb
        by_cases hlb : b < R
        · have hbI : (b : Int) < R := by omega
          have r0 := below_cell HB.out hg0 HR0.out
          go_wp2
          clear r0
          go_loopw [3, 30] (fun u t w' => ∃ (x : Nat) (v : Value), x ≤ C ∧ t = .int .i64 x ∧ v = u ∧ OwnSws w' w.heap.size v (upS m (125 * a + 25 * b + 5 * x)) ∧ Below w.heap.size w w') (fun _ t _ => C - (intOf t).toNat)
          case atStart => exact ⟨0, _, by omega, rfl, rfl, HO.out, HB.out⟩
          case round =>
            clear HO HB
            obtain ⟨x, v, hx, rfl, rfl, ho, hb⟩ := hrel
            have HO := hide ho; have HB := hide hb
            clear ho hb
            by_cases hlx : x < C
            · have hxI : (x : Int) < C := by omega
              rw [← T2.out a b x (by omega) (by omega) (by omega)] at HO
              go_wp2
              go_loopw [3, 7] (fun u t w' => ∃ (y : Nat) (v : Value), (x + 1 ≤ y ∧ y ≤ C) ∧ t = .int .i64 y ∧ v = u ∧ OwnSws w' w.heap.size v (upS m (125 * a + 25 * b + 5 * x + y)) ∧ Below w.heap.size w w') (fun _ t _ => C - (intOf t).toNat)
              case atStart => exact ⟨x + 1, _, by omega, by go_num, rfl, HO.out, HB.out⟩
              case round =>
                clear HO HB
                obtain ⟨y, v, ⟨hy1, hy2⟩, rfl, rfl, ho, hb⟩ := hrel
                have HO := hide ho; have HB := hide hb
                clear ho hb
                have r0 := below_cell HB.out hg0 HR0.out
                by_cases hly : y < C
                · have hyI : (y : Int) < C := by omega
                  obtain ⟨k, hk⟩ : ∃ k, k = 125 * a + 25 * b + 5 * x + y := ⟨_, rfl⟩
                  have HK := hide (show k < 1000 by omega)
                  have HDE := hide (HDEC.out a b x y (by omega) (by omega) (by omega))
                  rw [← hk] at HO HDE
                  have HKK : Hid (125 * a + 25 * b + 5 * x + (y + 1) = k + 1) := hide (by omega)
                  have HL := hide (HLEN.out k)
                  obtain ⟨s, hs⟩ : ∃ s : Sw, s = ⟨a, b, x, y⟩ := ⟨_, rfl⟩
                  have HSV := hide (show Value.agg #[.int .i64 (a : Int), .int .i64 (b : Int), .int .i64 (x : Int), .int .i64 (y : Int)] = swV s by rw [hs]; rfl)
                  rw [← hs] at HDE
                  have hsz := HB.out.size
                  clear hk hs
                  cases hsb : swB m s with
                  | false =>
                    have HSB := hide (show swF R C f s = false by rw [HB'.out, hsb])
                    have HN := hide (HNO.out k (by rw [HDE.out]; exact hsb))
                    clear hsb
                    go_wp2_with (first | ((with_reducible refine wpList_allocSw 8 rfl rfl rfl ?_); intro w7 h7 b7 s7) | ((refine wpList_storeSw h7 s rfl (.tmp 8) (.tmp 47) rfl rfl HSV.out ?_); intro w8 h8 g8 s8; have b8 := b7.trans (grown_below g8 (fun k hk => by cases hk; exact Nat.le_refl _) b7.size); have HO1 := hide (ownSws_below HO.out b8); have HB1 := hide (HB.out.trans (b8.mono HB.out.size)); clear h7 b7 s7 g8 s8 b8) | (with_reducible refine wpList_loadSwC (swC_at h8) 49 rfl rfl _ rfl rfl ?_) | ((with_reducible refine (HOK.out s _ _ (inMat_below HI.out HB1.out)).mono ?_); rw [HSB.out]; rintro e w9 ⟨rfl, b9⟩; replace HO1 := hide (ownSws_below HO1.out b9); have h9 := swAt_below h8 b9; replace HB1 := hide (HB1.out.trans (b9.mono HB1.out.size)); clear h8 b9) | (with_reducible refine wpList_loadSwC (swC_at h9) 52 rfl rfl _ rfl rfl ?_) | (refine wpList_buildOneA (swA s) _ 53 rfl rfl (.tmp 52) rfl rfl Try.underlying36 Try.infoSw (by decide) (by decide) rfl ?_) | (at_builtin; refine wpList_pushA HO1.out (swA s) _ rfl _ _ rfl Try.underlying36 Try.infoSw rfl (by decide) (by decide) rfl rfl rfl (swA_one s) (by have := HL.out; have := HK.out; omega) HB1.out.size ?_; intro g cap wa hown ba ga ata lta))
                    go_roundw
                    case rel => exact ⟨y + 1, _, by omega, by go_num, rfl, by rw [HKK.out, HN.out]; exact HO1.out, HB1.out⟩
                    case measure => simp [intOf]; omega
                  | true =>
                    have HSB := hide (show swF R C f s = true by rw [HB'.out, hsb])
                    have HN := hide (HYES.out k (by rw [HDE.out]; exact hsb))
                    clear hsb
                    go_wp2_with (first | ((with_reducible refine wpList_allocSw 8 rfl rfl rfl ?_); intro w7 h7 b7 s7) | ((refine wpList_storeSw h7 s rfl (.tmp 8) (.tmp 47) rfl rfl HSV.out ?_); intro w8 h8 g8 s8; have b8 := b7.trans (grown_below g8 (fun k hk => by cases hk; exact Nat.le_refl _) b7.size); have HO1 := hide (ownSws_below HO.out b8); have HB1 := hide (HB.out.trans (b8.mono HB.out.size)); clear h7 b7 s7 g8 s8 b8) | (with_reducible refine wpList_loadSwC (swC_at h8) 49 rfl rfl _ rfl rfl ?_) | ((with_reducible refine (HOK.out s _ _ (inMat_below HI.out HB1.out)).mono ?_); rw [HSB.out]; rintro e w9 ⟨rfl, b9⟩; replace HO1 := hide (ownSws_below HO1.out b9); have h9 := swAt_below h8 b9; replace HB1 := hide (HB1.out.trans (b9.mono HB1.out.size)); clear h8 b9) | (with_reducible refine wpList_loadSwC (swC_at h9) 52 rfl rfl _ rfl rfl ?_) | (refine wpList_buildOneA (swA s) _ 53 rfl rfl (.tmp 52) rfl rfl Try.underlying36 Try.infoSw (by decide) (by decide) rfl ?_) | (at_builtin; refine wpList_pushA HO1.out (swA s) _ rfl _ _ rfl Try.underlying36 Try.infoSw rfl (by decide) (by decide) rfl rfl rfl (swA_one s) (by have := HL.out; have := HK.out; omega) HB1.out.size ?_; intro g cap wa hown ba ga ata lta))
                    go_roundw
                    case rel =>
                      refine ⟨y + 1, _, by omega, by go_num, rfl, ?_, HB1.out.trans (ba.mono (Nat.le_refl _))⟩
                      rw [HKK.out, HN.out, HDE.out]
                      unfold OwnSws
                      rw [cellsS_snoc, List.length_append]
                      exact hown
                    case measure => simp [intOf]; omega
                · obtain rfl : y = C := by omega
                  have HT := hide (T3.out a b x (by omega) (by omega) (by omega))
                  go_wp2
                  go_roundw
                  case rel => exact ⟨x + 1, _, by omega, by go_num, rfl, by rw [HT.out]; exact HO.out, HB.out⟩
                  case measure => simp [intOf]; omega
            · obtain rfl : x = C := by omega
              have HT := hide (T4.out a b (by omega) (by omega))
              go_wp2
              go_roundw
              case rel => exact ⟨b + 1, _, by omega, by go_num, rfl, by rw [HT.out]; exact HO.out, HB.out⟩
              case measure => simp [intOf]; omega
        · obtain rfl : b = R := by omega
          have HT := hide (T5.out a (by omega))
          go_wp2
          go_roundw
          case rel => exact ⟨a + 1, _, by omega, by go_num, rfl, by rw [HT.out]; exact HO.out, HB.out⟩
          case measure => simp [intOf]; omega
    · obtain rfl : a = R := by omega
      go_wp2
      go_ret
      exact ⟨_, rfl, by rw [T6.out]; exact HO.out, HB.out⟩
end Go.Proofs.Ytnhijmhambggbaa
