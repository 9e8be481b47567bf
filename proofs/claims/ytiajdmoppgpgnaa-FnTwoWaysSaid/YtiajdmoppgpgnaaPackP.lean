/-
  Texts of this claim, one behind the other: SwsS, SwE, VisA, Visit, PathL, Pair, Alike, TwoR.
-/
import Derived.Test.YtiajdmoppgpgnaaPackN
import Derived.Test.YtiajdmoppgpgnaaPackO
import Derived.Test.YtiajdmoppgpgnaaPackJ
import Derived.Test.YtiajdmoppgpgnaaPackD
import Derived.Laws.OwnMore
import Derived.Great.BuildSlice
import Derived.WalkMore
import Derived.Deep.LoopGhost
import Derived.Test.YtiajdmoppgpgnaaPackL
import Derived.Test.YtiajdmoppgpgnaaPackM
/-
  SwitchesOf of the model.
-/
namespace Go.Proofs.Ytiajdmoppgpgnaa
open Go.RowKit

theorem swB_dec {R C : Nat} {f : Nat → Nat → Int} (hI : Img R C f) {i : Nat} (h : swB (mkM R C f) (decS i) = true) : i / 125 < i / 25 % 5 ∧ i / 5 % 5 < i % 5 ∧ i / 25 % 5 < R ∧ i % 5 < C := by
  rw [swB_mk hI] at h
  obtain ⟨a, b, c, d, e1, h1⟩ := swF_iff.1 h
  obtain ⟨h2, h3, h4, h5, -⟩ := four_iff.1 h1
  unfold decS at e1
  simp only [Sw.mk.injEq] at e1
  omega
theorem upS_to {R C : Nat} {f : Nat → Nat → Int} (hI : Img R C f) {k l : Nat} (hkl : k ≤ l) (h : ∀ i, k ≤ i → i < l → i / 125 < i / 25 % 5 → i / 5 % 5 < i % 5 → i / 25 % 5 < R → i % 5 < C → False) : upS (mkM R C f) l = upS (mkM R C f) k :=
  upS_skip hkl fun i h1 h2 => by
    rw [Bool.eq_false_iff]
    intro e
    obtain ⟨g1, g2, g3, g4⟩ := swB_dec hI e
    exact h i h1 h2 g1 g2 g3 g4
set_option maxHeartbeats 400000 in
theorem specSwitchesOf_no (v : Value) (m : List (List Int)) (w : World) (hin : InMat w v m) (h : okB m = false) :
    Calls Try.prog 102 #[v] w (SwsRes [] w) := by
  have HI := hide hin; have H := hide h
  clear hin h
  go_enter Try.func102, Try.ntmps102
  go_wp2_with ((with_reducible refine (specImageOk_any v m _ HI.out).mono ?_); rw [H.out]; rintro e w' ⟨rfl, rfl⟩)
  go_ret
  exact ⟨_, rfl, ownSws_nil _ _, Below.refl _ _⟩
set_option maxRecDepth 100000 in
set_option maxHeartbeats 4000000 in
theorem specSwitchesOf_yes (v : Value) (R C : Nat) (f : Nat → Nat → Int) (w : World) (hin : InMat w v (mkM R C f)) (hI : Img R C f) :
    Calls Try.prog 102 #[v] w (SwsRes (swsM (mkM R C f)) w) := by
  have hR := hI.r2; have hC := hI.c2; have hR1 := hI.r1; have hC1 := hI.c1
  have HI := hide hin; have H := hide (img_ok hI)
  have HOK := hide fun s v w h => specSwitchOk_img v R C f s w h hI
  have HB' : Hid (∀ s, swF R C f s = swB (mkM R C f) s) := hide fun s => by rw [swB_mk hI]
  have T1 := hide fun a (_ : a < 5) => upS_to (f := f) hI (k := 125 * a) (l := 125 * a + 25 * (a + 1)) (by omega) fun i _ _ _ _ _ _ => by omega
  have T2 := hide fun a b x (_ : a < 5) (_ : b < 5) (_ : x < 5) => upS_to (f := f) hI (k := 125 * a + 25 * b + 5 * x) (l := 125 * a + 25 * b + 5 * x + (x + 1)) (by omega) fun i _ _ _ _ _ _ => by omega
  have T3 := hide fun a b x (_ : a < 5) (_ : b < 5) (_ : x < 5) => upS_to (f := f) hI (k := 125 * a + 25 * b + 5 * x + C) (l := 125 * a + 25 * b + 5 * (x + 1)) (by omega) fun i _ _ _ _ _ _ => by omega
  have T4 := hide fun a b (_ : a < 5) (_ : b < 5) => upS_to (f := f) hI (k := 125 * a + 25 * b + 5 * C) (l := 125 * a + 25 * (b + 1)) (by omega) fun i _ _ _ _ _ _ => by omega
  have T5 := hide fun a (_ : a < 5) => upS_to (f := f) hI (k := 125 * a + 25 * R) (l := 125 * (a + 1)) (by omega) fun i _ _ _ _ _ _ => by omega
  have T6 := hide (upS_to (f := f) hI (k := 125 * R) (l := 625) (by omega) fun i _ _ _ _ _ _ => by omega)
  have HDEC : Hid (∀ a b x y : Nat, b < 5 → x < 5 → y < 5 → decS (125 * a + 25 * b + 5 * x + y) = ⟨a, b, x, y⟩) := hide fun a b x y _ _ _ => by
    unfold decS
    rw [show (125 * a + 25 * b + 5 * x + y) / 125 = a by omega, show (125 * a + 25 * b + 5 * x + y) / 25 % 5 = b by omega, show (125 * a + 25 * b + 5 * x + y) / 5 % 5 = x by omega, show (125 * a + 25 * b + 5 * x + y) % 5 = y by omega]
  obtain ⟨g0, o0, c0, rfl, hg0, hcell⟩ := inMat_img hin (by omega) (by omega)
  obtain ⟨g1, o1, k1, r0, -⟩ := hcell 0 (by omega)
  rw [Nat.add_zero] at r0
  have HR0 := hide r0
  show Calls _ _ _ _ (SwsRes (upS (mkM R C f) 625) w)
  obtain ⟨m, hm⟩ : ∃ m, m = mkM R C f := ⟨_, rfl⟩
  rw [← hm] at T1 T2 T3 T4 T5 T6 HB' H HI ⊢
  rw [← hm] at HOK
  have HLEN := hide (upS_len m)
  have HYES := hide (fun k h => upS_yes (m := m) (k := k) h)
  have HNO := hide (fun k h => upS_no (m := m) (k := k) h)
  clear hm hin hI hcell r0
  go_enter Try.func102, Try.ntmps102
  go_wp2_with ((with_reducible refine (specImageOk_any _ m _ HI.out).mono ?_); rw [H.out]; rintro e w' ⟨rfl, rfl⟩)
  have HO : Hid (OwnSws (w.alloc (.cells #[] 117)) w.heap.size (.slice (some ⟨w.heap.size, 0, none⟩) 0 0) []) := hide (World.ownsRow_made (base := w.heap.size) w #[] 0 (Nat.le_refl _) (Nat.zero_le _) rfl)
  have HB := hide ((Below.refl w.heap.size w).alloc (Nat.le_refl _) (.cells #[] 117))
  generalize w.alloc (.cells #[] 117) = w1 at HO HB ⊢
  go_loopw [3, 15] (fun u t w' => ∃ (a : Nat) (v : Value), a ≤ R ∧ t = .int .i64 a ∧ v = u ∧ OwnSws w' w.heap.size v (upS m (125 * a)) ∧ Below w.heap.size w w') (fun _ t _ => R - (intOf t).toNat)
  case atStart => exact ⟨0, _, by omega, rfl, rfl, HO.out, HB.out⟩
  case round =>
    clear HO HB
    obtain ⟨a, v, ha, rfl, rfl, ho, hb⟩ := hrel
    have HO := hide ho; have HB := hide hb
    clear ho hb
    by_cases hla : a < R
    · have haI : (a : Int) < R := by omega
      rw [← T1.out a (by omega)] at HO
      go_wp2
      go_loopw [3, 5] (fun u t w' => ∃ (b : Nat) (v : Value), (a + 1 ≤ b ∧ b ≤ R) ∧ t = .int .i64 b ∧ v = u ∧ OwnSws w' w.heap.size v (upS m (125 * a + 25 * b)) ∧ Below w.heap.size w w') (fun _ t _ => R - (intOf t).toNat)
      case atStart => exact ⟨a + 1, _, by omega, by go_num, rfl, HO.out, HB.out⟩
      case round =>
        clear HO HB
        obtain ⟨b, v, ⟨hb1, hb2⟩, rfl, rfl, ho, hb⟩ := hrel
        have HO := hide ho; have HB := hide hb
        clear ho hb
        by_cases hlb : b < R
        · have hbI : (b : Int) < R := by omega
          have r0 := below_cell HB.out hg0 HR0.out
          go_wp2
          clear r0
          go_loopw [3, 30] (fun u t w' => ∃ (x : Nat) (v : Value), x ≤ C ∧ t = .int .i64 x ∧ v = u ∧ OwnSws w' w.heap.size v (upS m (125 * a + 25 * b + 5 * x)) ∧ Below w.heap.size w w') (fun _ t _ => C - (intOf t).toNat)
          case atStart => exact ⟨0, _, by omega, rfl, rfl, HO.out, HB.out⟩
          case round =>
            clear HO HB
            obtain ⟨x, v, hx, rfl, rfl, ho, hb⟩ := hrel
            have HO := hide ho; have HB := hide hb
            clear ho hb
            by_cases hlx : x < C
            · have hxI : (x : Int) < C := by omega
              rw [← T2.out a b x (by omega) (by omega) (by omega)] at HO
              go_wp2
              go_loopw [3, 7] (fun u t w' => ∃ (y : Nat) (v : Value), (x + 1 ≤ y ∧ y ≤ C) ∧ t = .int .i64 y ∧ v = u ∧ OwnSws w' w.heap.size v (upS m (125 * a + 25 * b + 5 * x + y)) ∧ Below w.heap.size w w') (fun _ t _ => C - (intOf t).toNat)
              case atStart => exact ⟨x + 1, _, by omega, by go_num, rfl, HO.out, HB.out⟩
              case round =>
                clear HO HB
                obtain ⟨y, v, ⟨hy1, hy2⟩, rfl, rfl, ho, hb⟩ := hrel
                have HO := hide ho; have HB := hide hb
                clear ho hb
                have r0 := below_cell HB.out hg0 HR0.out
                by_cases hly : y < C
                · have hyI : (y : Int) < C := by omega
                  obtain ⟨k, hk⟩ : ∃ k, k = 125 * a + 25 * b + 5 * x + y := ⟨_, rfl⟩
                  have HK := hide (show k < 1000 by omega)
                  have HDE := hide (HDEC.out a b x y (by omega) (by omega) (by omega))
                  rw [← hk] at HO HDE
                  have HKK : Hid (125 * a + 25 * b + 5 * x + (y + 1) = k + 1) := hide (by omega)
                  have HL := hide (HLEN.out k)
                  obtain ⟨s, hs⟩ : ∃ s : Sw, s = ⟨a, b, x, y⟩ := ⟨_, rfl⟩
                  have HSV := hide (show Value.agg #[.int .i64 (a : Int), .int .i64 (b : Int), .int .i64 (x : Int), .int .i64 (y : Int)] = swV s by rw [hs]; rfl)
                  rw [← hs] at HDE
                  have hsz := HB.out.size
                  clear hk hs
                  cases hsb : swB m s with
                  | false =>
                    have HSB := hide (show swF R C f s = false by rw [HB'.out, hsb])
                    have HN := hide (HNO.out k (by rw [HDE.out]; exact hsb))
                    clear hsb
                    go_wp2_with (first | ((with_reducible refine wpList_allocSw 8 rfl rfl rfl ?_); intro w7 h7 b7 s7) | ((refine wpList_storeSw h7 s rfl (.tmp 8) (.tmp 47) rfl rfl HSV.out ?_); intro w8 h8 g8 s8; have b8 := b7.trans (grown_below g8 (fun k hk => by cases hk; exact Nat.le_refl _) b7.size); have HO1 := hide (ownSws_below HO.out b8); have HB1 := hide (HB.out.trans (b8.mono HB.out.size)); clear h7 b7 s7 g8 s8 b8) | (with_reducible refine wpList_loadSwC (swC_at h8) 49 rfl rfl _ rfl rfl ?_) | ((with_reducible refine (HOK.out s _ _ (inMat_below HI.out HB1.out)).mono ?_); rw [HSB.out]; rintro e w9 ⟨rfl, b9⟩; replace HO1 := hide (ownSws_below HO1.out b9); have h9 := swAt_below h8 b9; replace HB1 := hide (HB1.out.trans (b9.mono HB1.out.size)); clear h8 b9) | (with_reducible refine wpList_loadSwC (swC_at h9) 52 rfl rfl _ rfl rfl ?_) | (refine wpList_buildOneA (swA s) _ 53 rfl rfl (.tmp 52) rfl rfl Try.underlying113 Try.infoSw (by decide) (by decide) rfl ?_) | (at_builtin; refine wpList_pushA HO1.out (swA s) _ rfl _ _ rfl Try.underlying113 Try.infoSw rfl (by decide) (by decide) rfl rfl rfl (swA_one s) (by have := HL.out; have := HK.out; omega) HB1.out.size ?_; intro g cap wa hown ba ga ata lta))
                    go_roundw
                    case rel => exact ⟨y + 1, _, by omega, by go_num, rfl, by rw [HKK.out, HN.out]; exact HO1.out, HB1.out⟩
                    case measure => simp [intOf]; omega
                  | true =>
                    have HSB := hide (show swF R C f s = true by rw [HB'.out, hsb])
                    have HN := hide (HYES.out k (by rw [HDE.out]; exact hsb))
                    clear hsb
                    go_wp2_with (first | ((with_reducible refine wpList_allocSw 8 rfl rfl rfl ?_); intro w7 h7 b7 s7) | ((refine wpList_storeSw h7 s rfl (.tmp 8) (.tmp 47) rfl rfl HSV.out ?_); intro w8 h8 g8 s8; have b8 := b7.trans (grown_below g8 (fun k hk => by cases hk; exact Nat.le_refl _) b7.size); have HO1 := hide (ownSws_below HO.out b8); have HB1 := hide (HB.out.trans (b8.mono HB.out.size)); clear h7 b7 s7 g8 s8 b8) | (with_reducible refine wpList_loadSwC (swC_at h8) 49 rfl rfl _ rfl rfl ?_) | ((with_reducible refine (HOK.out s _ _ (inMat_below HI.out HB1.out)).mono ?_); rw [HSB.out]; rintro e w9 ⟨rfl, b9⟩; replace HO1 := hide (ownSws_below HO1.out b9); have h9 := swAt_below h8 b9; replace HB1 := hide (HB1.out.trans (b9.mono HB1.out.size)); clear h8 b9) | (with_reducible refine wpList_loadSwC (swC_at h9) 52 rfl rfl _ rfl rfl ?_) | (refine wpList_buildOneA (swA s) _ 53 rfl rfl (.tmp 52) rfl rfl Try.underlying113 Try.infoSw (by decide) (by decide) rfl ?_) | (at_builtin; refine wpList_pushA HO1.out (swA s) _ rfl _ _ rfl Try.underlying113 Try.infoSw rfl (by decide) (by decide) rfl rfl rfl (swA_one s) (by have := HL.out; have := HK.out; omega) HB1.out.size ?_; intro g cap wa hown ba ga ata lta))
                    go_roundw
                    case rel =>
                      refine ⟨y + 1, _, by omega, by go_num, rfl, ?_, HB1.out.trans (ba.mono (Nat.le_refl _))⟩
                      rw [HKK.out, HN.out, HDE.out]
                      unfold OwnSws
                      rw [cellsS_snoc, List.length_append]
                      exact hown
                    case measure => simp [intOf]; omega
                · obtain rfl : y = C := by omega
                  have HT := hide (T3.out a b x (by omega) (by omega) (by omega))
                  go_wp2
                  go_roundw
                  case rel => exact ⟨x + 1, _, by omega, by go_num, rfl, by rw [HT.out]; exact HO.out, HB.out⟩
                  case measure => simp [intOf]; omega
            · obtain rfl : x = C := by omega
              have HT := hide (T4.out a b (by omega) (by omega))
              go_wp2
              go_roundw
              case rel => exact ⟨b + 1, _, by omega, by go_num, rfl, by rw [HT.out]; exact HO.out, HB.out⟩
              case measure => simp [intOf]; omega
        · obtain rfl : b = R := by omega
          have HT := hide (T5.out a (by omega))
          go_wp2
          go_roundw
          case rel => exact ⟨a + 1, _, by omega, by go_num, rfl, by rw [HT.out]; exact HO.out, HB.out⟩
          case measure => simp [intOf]; omega
    · obtain rfl : a = R := by omega
      go_wp2
      go_ret
      exact ⟨_, rfl, by rw [T6.out]; exact HO.out, HB.out⟩
end Go.Proofs.Ytiajdmoppgpgnaa
/-
  eqSwitch, eqSwitchS of the exact laws, at the same switches.
-/
namespace Go.Proofs.Ytiajdmoppgpgnaa
open Go.RowKit

theorem exec_loadSwC {ρ : Operand → Value} {o : Oper} {w : World} {x : Operand} {g k : Nat} {s : Sw} (ho : o.op = .load 117 x) (hx : ρ x = .pointer (some ⟨g, k, none⟩)) (hb : SwC w g k s) : (execOp ρ o).run Try.prog w = .ok (.value (swV s)) w := by
  obtain ⟨h0, h1, h2, h3⟩ := hb
  unfold execOp
  simp only [ho, hx]
  go_simp
  rfl
theorem exec_indexSw {ρ : Operand → Value} {o : Oper} {w : World} {x i : Operand} {g b n c k : Nat} (ho : o.op = .indexAddr 113 x i) (hx : ρ x = .slice (some ⟨g, b, none⟩) n c) (hi : ρ i = .int .i64 k) (hk : k < n) : (execOp ρ o).run Try.prog w = .ok (.value (.pointer (some ⟨g, b + k * 4, none⟩))) w := by
  have hkI : (k : Int) < n := by omega
  unfold execOp
  simp only [ho, hx, hi]
  go_simp

theorem exec_not {P : Program} {ρ : Operand → Value} {o : Oper} {w : World} {x : Operand} {T : TypeId} {b : Bool} (ho : o.op = .unOp .not T x) (hx : ρ x = .bool b) : (execOp ρ o).run P w = .ok (.value (.bool !b)) w := by
  unfold execOp
  simp only [ho, hx]
  rfl
end Go.Proofs.Ytiajdmoppgpgnaa
/-
  What the model's search keeps: images and ways, both lists of the call's own.
-/
namespace Go.Proofs.Ytiajdmoppgpgnaa
open Go.RowKit
set_option maxRecDepth 100000

theorem Try.infoWay : (Try.prog.info? 113).map (fun i => (i.zero, i.size, i.bytes)) = some (some (.slice none 0 0), 1, 24) := by kernel_rfl
theorem grownA_kept {w w' : World} {b1 b2 e1 e2 n1 n2 z1 z2 : Nat} {v u : Value} {xs ys : List Value} (h : w.ownsRow b1 e1 z1 v n1 xs) (hu : w.ownsRow b2 e2 z2 u n2 ys) (hg : w.grownBy w' u.ownBlock) (hne : e1 ≠ e2) : w'.ownsRow b1 e1 z1 v n1 xs := h.kept hg (ownA_types h hu hne)
theorem own_at {w : World} {base e n : Nat} {v : Value} {xs : List Value} (h : w.ownsRow base e 1 v n xs) {i : Nat} (hi : i < n) : ∃ g c, v = .slice (some ⟨g, 0, none⟩) n c ∧ base ≤ g ∧ g < w.heap.size ∧ ∀ j, j < n → w.cell? ⟨g, j, none⟩ = some (xs.getD j undef) := by
  obtain ⟨g, c, rfl, h1, h2, -, -, h3, -⟩ := ownA_some h (by omega)
  refine ⟨g, c, rfl, h1, h2, fun j hj => ?_⟩
  have hl : xs.length = n := by have := h.1; omega
  rw [h3 j (by omega), List.getD_eq_getElem?_getD, List.getElem?_eq_getElem (show j < xs.length by omega)]; rfl
theorem own_max {w : World} {base e n z : Nat} {v : Value} {xs : List Value} (h : w.ownsRow base e z v n xs) : n ≤ maxLen := by
  rcases h.2 with ⟨-, h0⟩ | ⟨g, cap, cur, rfl, hbg, hg, hc, hm, _⟩
  · omega
  · omega

/-- A list of switches of the call's own that is not nil. -/
def OwnSwE (w : World) (lo : Nat) (v : Value) (l : List Sw) : Prop := OwnSws w lo v l ∧ ∃ g c, v = .slice (some ⟨g, 0, none⟩) l.length c
theorem ownSwE_below {w w' : World} {lo : Nat} {v : Value} {l : List Sw} (h : OwnSwE w lo v l) (hb : Below w.heap.size w w') : OwnSwE w' lo v l := ⟨ownSws_below h.1 hb, h.2⟩
theorem ownSwE_kept {w w' : World} {lo B e n z : Nat} {v u : Value} {l : List Sw} {xs : List Value} (h : OwnSwE w lo v l) (hu : w.ownsRow B e z u n xs) (hg : w.grownBy w' u.ownBlock) (hne : 117 ≠ e) : OwnSwE w' lo v l := ⟨grownA_kept h.1 hu hg hne, h.2⟩
theorem ownSwE_base {w : World} {lo lo' : Nat} {v : Value} {l : List Sw} (h : OwnSwE w lo v l) (hb : lo' ≤ lo) : OwnSwE w lo' v l := ⟨ownSws_base h.1 hb, h.2⟩
/-- Ways, one behind the other. -/
def OwnWs (w : World) (lo : Nat) (v : Value) (V : List (List Sw)) : Prop :=
  ∃ us : List Value, w.ownsRow lo 113 1 v V.length us ∧ ∀ i, (h : i < V.length) → OwnSwE w lo (us.getD i undef) V[i]
theorem ownWs_below {w w' : World} {lo : Nat} {v : Value} {V : List (List Sw)} (h : OwnWs w lo v V) (hb : Below w.heap.size w w') : OwnWs w' lo v V := by
  obtain ⟨us, h1, h2⟩ := h
  exact ⟨us, own_below h1 hb, fun i hi => ownSwE_below (h2 i hi) hb⟩
theorem ownWs_kept {w w' : World} {lo B e n z : Nat} {v u : Value} {V : List (List Sw)} {xs : List Value} (h : OwnWs w lo v V) (hu : w.ownsRow B e z u n xs) (hg : w.grownBy w' u.ownBlock) (h1 : 113 ≠ e) (h2 : 117 ≠ e) : OwnWs w' lo v V := by
  obtain ⟨us, g1, g2⟩ := h
  exact ⟨us, grownA_kept g1 hu hg h1, fun i hi => ownSwE_kept (g2 i hi) hu hg h2⟩
theorem ownImgs_kept {w w' : World} {lo B e n z : Nat} {v u : Value} {L : List (List (List Int))} {xs : List Value} (h : OwnImgs w lo v L) (hu : w.ownsRow B e z u n xs) (hg : w.grownBy w' u.ownBlock) (h1 : 29 ≠ e) (h2 : 33 ≠ e) (h3 : 3 ≠ e) : OwnImgs w' lo v L := by
  obtain ⟨us, g1, g2⟩ := h
  refine ⟨us, grownA_kept g1 hu hg h1, fun i hi => ?_⟩
  obtain ⟨hi', h0, vs, f1, f2, f3, f4⟩ := g2 i hi
  exact ⟨hi', Nat.le_trans h0 hg.size, vs, grownA_kept f1 hu hg h2, f2, fun i hi => ⟨grownA_kept (f3 i hi).1 hu hg h3, (f3 i hi).2⟩, f4⟩
theorem ownWs_push {w w' : World} {lo : Nat} {v v' u : Value} {us : List Value} {V : List (List Sw)} {p : List Sw} (hv : w.ownsRow lo 113 1 v V.length us) (hr : ∀ i, (h : i < V.length) → OwnSwE w lo (us.getD i undef) V[i]) (hu : OwnSwE w lo u p)
    (hg : w.grownBy w' v.ownBlock) (ho : w'.ownsRow lo 113 1 v' (V.length + 1) (us ++ [u])) : OwnWs w' lo v' (V ++ [p]) := by
  have hl : us.length = V.length := by have := hv.1; omega
  refine ⟨us ++ [u], by simpa using ho, fun i h => ?_⟩
  by_cases e : i < V.length
  · have e1 : (us ++ [u]).getD i undef = us.getD i undef := by simp [List.getD_eq_getElem?_getD, List.getElem?_append_left (show i < us.length by omega)]
    rw [e1, List.getElem_append_left e]
    exact ownSwE_kept (hr i e) hv hg (by decide)
  · obtain rfl : i = V.length := by simp at h; omega
    have e1 : (us ++ [u]).getD V.length undef = u := by rw [← hl]; simp [List.getD_eq_getElem?_getD]
    rw [e1, show (V ++ [p])[V.length] = p by simp]
    exact ownSwE_kept hu hv hg (by decide)
theorem ownWs_ways {w : World} {lo : Nat} {v : Value} {V : List (List Sw)} (h : OwnWs w lo v V) : OwnWays w lo v V := by
  obtain ⟨us, h1, h2⟩ := h
  obtain ⟨a, c, rfl⟩ := own_slice h1
  refine ⟨a, c, rfl, ?_⟩
  by_cases h0 : V.length = 0
  · exact .inl h0
  · right
    obtain ⟨g, c', e, -, hg, hc⟩ := own_at h1 (i := 0) (by omega)
    injection e with e1
    exact ⟨g, e1, hg, fun i hi => ⟨_, hc i hi, (h2 i hi).1⟩⟩
theorem ownImgs_in {w : World} {lo : Nat} {v : Value} {L : List (List (List Int))} (h : OwnImgs w lo v L) : InImgs w v L := by
  obtain ⟨us, h1, h2⟩ := h
  obtain ⟨a, c, rfl⟩ := own_slice h1
  refine ⟨a, c, rfl, own_max h1, ?_⟩
  by_cases h0 : L.length = 0
  · exact .inl h0
  · right
    obtain ⟨g, c', e, -, hg, hc⟩ := own_at h1 (i := 0) (by omega)
    injection e with e1
    exact ⟨g, 0, e1, hg, fun i hi => ⟨_, by rw [Nat.zero_add]; exact hc i hi, by obtain ⟨hi', -, h3⟩ := h2 i hi; exact inMat_own h3⟩⟩
theorem ownM2_slice {w : World} {lo : Nat} {v : Value} {m : List (List Int)} (h : OwnM2 w lo v m) : ∃ a n c, v = .slice a n c := by
  obtain ⟨hi, -, vs, h1, -⟩ := h
  obtain ⟨a, c, e⟩ := own_slice h1
  exact ⟨a, _, c, e⟩
theorem imgs_at {w : World} {lo a : Nat} {v : Value} {L : List (List (List Int))} (h : OwnImgs w lo v L) (ha : a < L.length) :
    ∃ g c xa xn xc, v = .slice (some ⟨g, 0, none⟩) L.length c ∧ g < w.heap.size ∧ w.cell? ⟨g, a, none⟩ = some (.slice xa xn xc) ∧ OwnM2 w lo (.slice xa xn xc) (L.getD a []) := by
  obtain ⟨us, h1, h2⟩ := h
  obtain ⟨g, c, rfl, -, hg, hc⟩ := own_at h1 ha
  obtain ⟨xa, xn, xc, e⟩ := ownM2_slice (h2 a ha)
  have h3 := h2 a ha
  rw [e] at h3
  exact ⟨g, c, xa, xn, xc, rfl, hg, by rw [hc a ha, e], by rwa [List.getD_eq_getElem?_getD, List.getElem?_eq_getElem ha]⟩
theorem ways_at {w : World} {lo a : Nat} {v : Value} {V : List (List Sw)} (h : OwnWs w lo v V) (ha : a < V.length) :
    ∃ g c gp pc, v = .slice (some ⟨g, 0, none⟩) V.length c ∧ g < w.heap.size ∧ w.cell? ⟨g, a, none⟩ = some (.slice (some ⟨gp, 0, none⟩) (V.getD a []).length pc) ∧ OwnSws w lo (.slice (some ⟨gp, 0, none⟩) (V.getD a []).length pc) (V.getD a []) := by
  obtain ⟨us, h1, h2⟩ := h
  obtain ⟨g, c, rfl, -, hg, hc⟩ := own_at h1 ha
  obtain ⟨h3, gp, pc, e⟩ := h2 a ha
  have e2 : V.getD a [] = V[a] := by rw [List.getD_eq_getElem?_getD, List.getElem?_eq_getElem ha]; rfl
  rw [e] at h3
  refine ⟨g, c, gp, pc, rfl, hg, by rw [hc a ha, e, e2], by rw [e2]; exact h3⟩

/-- What stands through the search. -/
def VSt (w : World) (L : List (List (List Int))) (W : List (List Sw)) (lv wv : Value) (w' : World) : Prop := OwnImgs w' w.heap.size lv L ∧ OwnWs w' w.heap.size wv W ∧ Below w.heap.size w w'
theorem vst_below {w w1 w2 : World} {L : List (List (List Int))} {W : List (List Sw)} {lv wv : Value} (h : VSt w L W lv wv w1) (hb : Below w1.heap.size w1 w2) : VSt w L W lv wv w2 :=
  ⟨ownImgs_below h.1 hb, ownWs_below h.2.1 hb, h.2.2.trans (hb.mono h.2.2.size)⟩

theorem specSwitches_node {R C : Nat} {x : List (List Int)} (v : Value) (w : World) (hin : InMat w v x) (h : Node R C x) : Calls Try.prog 102 #[v] w (SwsRes (swsM x) w) := by
  obtain ⟨f, rfl, hI⟩ := h
  exact specSwitchesOf_yes v R C f w hin hI
theorem specApply_node {R C : Nat} {x : List (List Int)} {s : Sw} (v : Value) (w : World) (hin : InMat w v x) (h : Node R C x) (hs : swB x s = true) : Calls Try.prog 103 #[v, swV s] w (MatRes (flipM x s) w) := by
  obtain ⟨f, rfl, hI⟩ := h
  rw [swB_mk hI] at hs
  rw [flipM_mk hI]
  exact specApply_img v R C f s w hin hI hs
theorem bfs_wlen {m : List (List Int)} {L : List (List (List Int))} {W : List (List Sw)} {a K : Nat} (h : Bfs m L W a K) : ∀ i, i < L.length → (W.getD i []).length ≤ i := by
  intro i
  induction i using Nat.strongRecOn with
  | ind i ih =>
    intro hi
    rcases h.tree i hi with ⟨e, -⟩ | ⟨j, s, hj, e, -, -⟩
    · rw [e]; exact Nat.zero_le _
    · have := ih j hj (by omega)
      rw [e, List.length_append, List.length_singleton]; omega

/-- An image of the call's own. -/
def imgNew (B : Nat) (m : List (List Int)) : FactP := fun u w2 => OwnM2 w2 B u m
theorem stable_imgNew (B : Nat) (m : List (List Int)) : StableP (imgNew B m) := fun _ _ _ hb h => ownM2_below h hb
/-- An empty list of switches, new. -/
def emptyF (B : Nat) : FactP := fun u w2 => ∃ g, u = .slice (some ⟨g, 0, none⟩) 0 0 ∧ B ≤ g ∧ w2.heap[g]? = some (.cells #[] 117 (0, 0))
theorem stable_emptyF (B : Nat) : StableP (emptyF B) := fun _ _ _ hb h => by
  obtain ⟨g, h1, h2, h3⟩ := h
  exact ⟨g, h1, h2, by rw [hb.block g (Array.getElem?_eq_some_iff.1 h3).1]; exact h3⟩
/-- A list of one switch, new. -/
def oneF (B : Nat) (s : Sw) : FactP := fun u w2 => ∃ b, u = .slice (some ⟨b, 0, none⟩) 1 1 ∧ B ≤ b ∧ SwAt w2 b s
theorem stable_oneF (B : Nat) (s : Sw) : StableP (oneF B s) := fun _ _ _ hb h => by
  obtain ⟨b, h1, h2, h3⟩ := h
  exact ⟨b, h1, h2, swAt_below h3 hb⟩
def swsF (B : Nat) (p : List Sw) : FactP := fun u w2 => OwnSwE w2 B u p
theorem stable_swsF (B : Nat) (p : List Sw) : StableP (swsF B p) := fun _ _ _ hb h => ownSwE_below h hb
/-- A list of one way, new. -/
def oneWayF (B : Nat) (p : List Sw) : FactP := fun u w2 => ∃ b e, u = .slice (some ⟨b, 0, none⟩) 1 1 ∧ b < w2.heap.size ∧ w2.cell? ⟨b, 0, none⟩ = some e ∧ OwnSwE w2 B e p
theorem stable_oneWayF (B : Nat) (p : List Sw) : StableP (oneWayF B p) := fun _ _ _ hb h => by
  obtain ⟨b, e, h1, h2, h3, h4⟩ := h
  exact ⟨b, e, h1, Nat.lt_of_lt_of_le h2 hb.size, below_cell hb h2 h3, ownSwE_below h4 hb⟩
/-- The ways with one more. -/
def waysF (W : World) (lo : Nat) (v : Value) (V : List (List Sw)) : FactP := fun u w2 => W.grownBy w2 v.ownBlock ∧ OwnWs w2 lo u V
theorem stable_waysF (W : World) (lo : Nat) (v : Value) (V : List (List Sw)) : StableP (waysF W lo v V) := fun _ _ _ hb h => ⟨grown_trans h.1 (grown_of_below hb _), ownWs_below h.2 hb⟩

theorem exec_buildNoSw {ρ : Operand → Value} {o : Oper} {w : World} (ho : o.op = .buildSlice 113 0 #[]) :
    (execOp ρ o).run Try.prog w = .ok (.value (.slice (some ⟨w.heap.size, 0, none⟩) 0 0)) (w.alloc (.cells #[] 117)) := by
  unfold execOp
  simp only [ho]
  go_simp
theorem exec_buildSw {ρ : Operand → Value} {o : Oper} {w : World} {x : Operand} {s : Sw} (ho : o.op = .buildSlice 113 1 #[(0, x)]) (hx : ρ x = swV s) :
    (execOp ρ o).run Try.prog w = .ok (.value (.slice (some ⟨w.heap.size, 0, none⟩) 1 1)) (w.alloc (.cells (swA s) 117)) := by
  unfold swV swA at hx
  unfold execOp swA
  simp only [ho]
  go_simp
theorem cellsS_one (l : List Sw) : ∀ u ∈ cellsS l, u.oneCell' = true := by
  intro u hu
  unfold cellsS at hu
  obtain ⟨s, -, h⟩ := List.mem_flatMap.1 hu
  simp only [List.mem_cons, List.not_mem_nil, or_false] at h
  rcases h with rfl | rfl | rfl | rfl <;> rfl
theorem swE_of {w : World} {B : Nat} {v : Value} {l : List Sw} (h : OwnSws w B v l) (hne : v ≠ .slice none 0 0) : OwnSwE w B v l := by
  refine ⟨h, ?_⟩
  rcases h.2 with ⟨e, -⟩ | ⟨g, cap, cur, e, -⟩
  · exact absurd e hne
  · exact ⟨g, cap, e⟩
/-- 'append(v, x...)' at switches. -/
theorem exec_appSws (ty : TypeId) {W : World} {B lo m gp c : Nat} {v : Value} {p q : List Sw}
    (hv : OwnSwE W B v p) (hp : OwnSws W lo (.slice (some ⟨gp, 0, none⟩) m c) q) (hB : B ≤ W.heap.size) (hn : p.length + q.length ≤ 4000000) :
    ∃ v' w', (∀ (ρ : Operand → Value) (o : Oper) (x y : Operand), o.op = .call { callee := .builtin .append, args := #[x, y], argTypes := #[113, 113] } → o.type = ty → ρ x = v → ρ y = .slice (some ⟨gp, 0, none⟩) m c → (execOp ρ o).run Try.prog W = .ok (.value v') w') ∧ OwnSwE w' B v' (p ++ q) ∧ W.grownBy w' v.ownBlock := by
  obtain ⟨i0, hi, hz0, hz1, hz2⟩ := info_parts Try.infoSw
  have hm : m = q.length := by
    rcases hp.2 with ⟨e, -⟩ | ⟨g, cap, cur, e, -⟩
    · cases e
    · cases e; rfl
  subst hm
  obtain ⟨hv1, g, cv, rfl⟩ := hv
  obtain ⟨v', w', hr, g1, g2, g3⟩ := run_append_own (P := Try.prog) W B 113 ty 117 i0 _ 4 32 Try.underlying113 hi hz0 hz1 hz2 rfl (by decide) _ p.length (cellsS p) hv1 ⟨gp, 0, none⟩ q.length c (cellsS q) (cellsS_len q) (fun j u hj => by
      rw [addr_add, Nat.zero_add]
      have hj' : j < q.length * 4 := by have := (List.getElem?_eq_some_iff.1 hj).1; rwa [cellsS_len] at this
      rw [World.ownsRow.cellAt hp j hj', hj]) (cellsS_one q) (by unfold maxLen; omega) (by omega) hB
  refine ⟨v', w', ?_, swE_of ?_ ?_, g2⟩
  · intro ρ o x y ho ht hx hy
    subst ht
    unfold execOp
    simp only [ho, resolve, invoke, builtin, Sem.run_bind, Sem.run_pure, Result.andThen_ok, List.map_toArray, List.map_cons, List.map_nil, hx, hy, hr]
  · unfold OwnSws
    rw [List.length_append, show cellsS (p ++ q) = cellsS p ++ cellsS q by simp [cellsS]]
    exact g1
  · intro e
    have := (g3.1 e).1
    cases this
/-- A list of one switch, to be read. -/
theorem oneF_own {w : World} {b : Nat} {s : Sw} (h : SwAt w b s) : OwnSws w 0 (.slice (some ⟨b, 0, none⟩) 1 1) [s] :=
  ⟨rfl, .inr ⟨b, 1, swA s, rfl, Nat.zero_le _, h, Nat.le_refl _, by decide, rfl, rfl⟩⟩
theorem emptyF_own {w : World} {g B : Nat} (h : w.heap[g]? = some (.cells #[] 117 (0, 0))) (hB : B ≤ g) : OwnSwE w B (.slice (some ⟨g, 0, none⟩) 0 0) [] :=
  ⟨⟨rfl, .inr ⟨g, 0, #[], rfl, hB, h, Nat.le_refl _, by decide, rfl, rfl⟩⟩, g, 0, rfl⟩
theorem oneF_far {w w' : World} {B g : Nat} {s : Sw} {u : Value} (h : oneF B s u w) (hg : w.heap[g]? = some (.cells #[] 117 (0, 0))) (hw : w.grownBy w' (some g)) : oneF B s u w' := by
  obtain ⟨b, h1, h2, h3⟩ := h
  refine ⟨b, h1, h2, ?_⟩
  have hne : b ≠ g := by
    intro e
    subst e
    unfold SwAt at h3
    rw [h3] at hg
    simp [swA] at hg
  unfold SwAt at h3 ⊢
  rw [hw.block b (Array.getElem?_eq_some_iff.1 h3).1 (fun e => hne (Option.some.inj e))]
  exact h3
end Go.Proofs.Ytiajdmoppgpgnaa
/-
  l06Visit of the model: a search in breadth over two lists.
-/
namespace Go.Proofs.Ytiajdmoppgpgnaa
open Go.RowKit

theorem visit_start {w w1 : World} {u : Value} {m : List (List Int)} (hu : OwnMat w1 w.heap.size w1.heap.size u m) (hb : Below w.heap.size w w1) :
    VSt w [m] [[]] (.slice (some ⟨w1.heap.size, 0, none⟩) 1 1) (.slice (some ⟨w1.heap.size + 2, 0, none⟩) 1 1) (((w1.alloc (.cells #[u] 29)).alloc (.cells #[] 117)).alloc (.cells #[.slice (some ⟨w1.heap.size + 1, 0, none⟩) 0 0] 113)) := by
  have hz := hb.size
  obtain ⟨w2, h2⟩ : ∃ w2, w2 = w1.alloc (.cells #[u] 29) := ⟨_, rfl⟩
  have a2 : Below w1.heap.size w1 w2 := by rw [h2]; exact (Below.refl _ _).alloc (Nat.le_refl _) _
  have s2 : w2.heap.size = w1.heap.size + 1 := by rw [h2]; simp
  have o2 : w2.ownsRow w.heap.size 29 1 (.slice (some ⟨w1.heap.size, 0, none⟩) 1 1) 1 [u] := by rw [h2]; exact World.ownsRow_lit w1 #[u] 1 hz (by decide) rfl
  rw [← h2]; clear h2
  obtain ⟨w3, h3⟩ : ∃ w3, w3 = w2.alloc (.cells #[] 117) := ⟨_, rfl⟩
  have a3 : Below w2.heap.size w2 w3 := by rw [h3]; exact (Below.refl _ _).alloc (Nat.le_refl _) _
  have s3 : w3.heap.size = w2.heap.size + 1 := by rw [h3]; simp
  have o3 : w3.heap[w1.heap.size + 1]? = some (.cells #[] 117 (0, 0)) := by rw [h3, ← s2]; exact heap_alloc_new w2 _
  rw [← h3]; clear h3
  have a4 := (Below.refl w3.heap.size w3).alloc (Nat.le_refl _) (.cells #[.slice (some ⟨w1.heap.size + 1, 0, none⟩) 0 0] 113)
  have o4 := World.ownsRow_lit (base := w.heap.size) (e := 113) (size := 1) w3 #[.slice (some ⟨w1.heap.size + 1, 0, none⟩) 0 0] 1 (by omega) (by decide) rfl
  rw [show w3.heap.size = w1.heap.size + 2 by omega] at o4
  have b3 := a2.trans (a3.mono a2.size)
  have b4 := b3.trans (a4.mono b3.size)
  refine ⟨⟨[u], own_below (own_below o2 a3) a4, fun i hi => ?_⟩, ⟨[.slice (some ⟨w1.heap.size + 1, 0, none⟩) 0 0], o4, fun i hi => ?_⟩, hb.trans (b4.mono hb.size)⟩
  · obtain rfl : i = 0 := by simpa using hi
    exact ⟨w1.heap.size, b4.size, ownMat_below hu b4⟩
  · obtain rfl : i = 0 := by simpa using hi
    exact ownSwE_below (emptyF_own o3 (by omega)) a4
theorem swAt_kept {w w' : World} {B e n z g : Nat} {u : Value} {s : Sw} {xs : List Value} (h : SwAt w g s) (hu : w.ownsRow B e z u n xs) (hg : w.grownBy w' u.ownBlock) (hne : 117 ≠ e) : SwAt w' g s := by
  have := grownA_kept (oneF_own h) hu hg hne
  unfold SwAt at h ⊢
  rw [hg.block g (Array.getElem?_eq_some_iff.1 h).1 ?_]
  · exact h
  · intro e'
    rcases ownA_types (oneF_own h) hu hne with h1 | h1
    · simp [Value.ownBlock] at h1
    · exact h1 e'
theorem below_push {B e n z : Nat} {w w1 w2 : World} {u : Value} {xs : List Value} (h : Below B w w1) (hu : w1.ownsRow B e z u n xs) (hg : w1.grownBy w2 u.ownBlock) (hB : B ≤ w.heap.size) : Below B w w2 := h.grown hg (Nat.le_trans hB h.size) fun k hk => (hu.lt k hk).1
end Go.Proofs.Ytiajdmoppgpgnaa
/-
  PathTo and NextTo of both answer the same.
-/
namespace Go.Proofs.Ytiajdmoppgpgnaa
open Go.RowKit

/-- What PathTo lists. -/
def PathOf (m l : List (List Int)) (P : List Sw) : Prop := (pathB m l = true → Best m l P) ∧ (pathB m l = false → P = [])
open Classical in
noncomputable def pathL (m l : List (List Int)) : List Sw := if h : ∃ P, PathOf m l P then h.choose else []
theorem pathB_node {m l : List (List Int)} (h : pathB m l = true) : ∃ R C f g, m = mkM R C f ∧ l = mkM R C g ∧ Img R C f ∧ Img R C g ∧ SameF R C f g ∧ R ≤ 4 ∧ C ≤ 4 := by
  unfold pathB at h
  rw [Bool.and_eq_true] at h
  obtain ⟨R, C, f, g, rfl, rfl, hI, hJ, hs⟩ := sameB_yes h.1
  have h2 := h.2
  rw [mkM_len, width_mk hI] at h2
  simp only [Bool.and_eq_true, decide_eq_true_eq] at h2
  exact ⟨R, C, f, g, rfl, rfl, hI, hJ, hs, h2.1, h2.2⟩
theorem path_uniq {m l : List (List Int)} {P Q : List Sw} (h1 : PathOf m l P) (h2 : PathOf m l Q) : P = Q := by
  cases h : pathB m l with
  | false => rw [h1.2 h, h2.2 h]
  | true =>
    obtain ⟨R, C, f, g, rfl, rfl, hI, -⟩ := pathB_node h
    exact best_one ⟨f, rfl, hI⟩ (h1.1 h) (h2.1 h)
theorem path_one {m l : List (List Int)} {P : List Sw} (h : PathOf m l P) : P = pathL m l := by
  have hex : ∃ P, PathOf m l P := ⟨P, h⟩
  unfold pathL
  rw [dif_pos hex]
  exact path_uniq h hex.choose_spec
theorem path_len {m l : List (List Int)} {P : List Sw} (h : PathOf m l P) : P.length ≤ 12 := by
  cases hb : pathB m l with
  | false => rw [h.2 hb]; exact Nat.zero_le _
  | true =>
    have hp := h.1 hb
    obtain ⟨R, C, f, g, rfl, rfl, hI, hJ, hs, -⟩ := pathB_node hb
    obtain ⟨q, hq, hl⟩ := joined _ f g (Nat.le_refl _) hI hJ hs
    have h1 := best_len ⟨f, rfl, hI⟩ hp hq
    have h2 : diff R C f g ≤ 25 := cnt_le _ _
    omega
theorem pathL_len (m l : List (List Int)) : (pathL m l).length ≤ 12 := by
  unfold pathL
  split
  · rename_i h; exact path_len h.choose_spec
  · exact Nat.zero_le _
def PathAns (m l : List (List Int)) (w : World) (e : Ending) (w' : World) : Prop := ∃ v, e = .returned (.tuple #[v, .bool (pathB m l)]) ∧ OwnSws w' w.heap.size v (pathL m l) ∧ Below w.heap.size w w'
theorem pathAns {m l : List (List Int)} {w w' : World} {e : Ending} (h : PathRes m l w e w') : PathAns m l w e w' := by
  obtain ⟨v, P, rfl, h1, h2, h3, h4⟩ := h
  rw [path_one ⟨h3, h4⟩] at h1
  exact ⟨v, rfl, h1, h2⟩
def NextAns (m l : List (List Int)) (w : World) (e : Ending) (w' : World) : Prop := e = .returned (.tuple #[swV ((pathL m l).headD zeroSw), .bool (!(pathL m l).isEmpty)]) ∧ Below w.heap.size w w'
theorem nextAns {m l : List (List Int)} {w w' : World} {e : Ending} (h : NextRes m l w e w') : NextAns m l w e w' := by
  obtain ⟨P, rfl, h2, h3, h4⟩ := h
  obtain rfl := path_one ⟨h3, h4⟩
  exact ⟨rfl, h2⟩
end Go.Proofs.Ytiajdmoppgpgnaa
/-
  MakePair: two images that switches join.
-/
namespace Go.Proofs.Ytiajdmoppgpgnaa
open Go.RowKit
set_option maxRecDepth 100000

theorem small_num : ((List.range 625).filter fun i => decide (i / 125 ≤ 3 ∧ i / 25 % 5 ≤ 3 ∧ i / 5 % 5 ≤ 3 ∧ i % 5 ≤ 3)).length = 256 := by decide +kernel
theorem len_mono {α : Type} {p q : α → Bool} (h : ∀ x, p x = true → q x = true) : ∀ l : List α, (l.filter p).length ≤ (l.filter q).length
  | [] => Nat.le_refl _
  | x :: l => by
    have := len_mono h l
    cases hp : p x with
    | false =>
      cases hq : q x with
      | false => simpa [List.filter_cons, hp, hq] using this
      | true => simp only [List.filter_cons, hp, hq, if_true, List.length_cons, Bool.false_eq_true, if_false]; omega
    | true => simp only [List.filter_cons, hp, h x hp, if_true, List.length_cons]; omega
theorem sws_small {R C : Nat} {f : Nat → Nat → Int} (hI : Img R C f) (hR : R ≤ 4) (hC : C ≤ 4) : (swsM (mkM R C f)).length ≤ 256 := by
  unfold swsM upS
  rw [List.length_map, ← small_num]
  refine len_mono (fun i h => ?_) _
  obtain ⟨h1, h2, h3, h4⟩ := swB_dec hI h
  rw [decide_eq_true_eq]
  omega
theorem sameF_flipF {R C : Nat} {f g : Nat → Nat → Int} {s : Sw} (hI : Img R C g) (h : SameF R C f g) (hs : swF R C g s = true) : SameF R C f (flipF g s) := by
  obtain ⟨a, b, c, d, rfl, h4⟩ := swF_iff.1 hs
  exact sameF_trans h (sameF_symm (sameF_flip h4 hI))
/-- What MakePair answers. -/
def PairRes (w : World) (e : Ending) (w' : World) : Prop :=
  ∃ (v u : Value) (R C : Nat) (f g : Nat → Nat → Int), e = .returned (.tuple #[v, u]) ∧ Img R C f ∧ Img R C g ∧ SameF R C f g ∧ R ≤ 4 ∧ C ≤ 4 ∧ InMat w' v (mkM R C f) ∧ InMat w' u (mkM R C g) ∧ Below w.heap.size w w'
theorem ownSws_cur {w w' : World} {lo B : Nat} {v : Value} {l : List Sw} (h : OwnSws w lo v l) (hg : w.grownBy w' (some B)) (hB : B < lo) : OwnSws w' lo v l :=
  ownA_grown h hg fun k hk e => by cases hk; have := (h.lt _ e).1; omega
set_option maxHeartbeats 2000000 in
theorem makePair_any (n c : Nat) (a : Option Addr) (w : World) (hin : InBytes w w.heap.size a n) :
    Calls Try.prog 56 #[.slice a n c] w (PairRes w) := by
  have HI := hide hin
  clear hin
  go_enter Try.func56, Try.ntmps56
  go_wp2_with fail
  refine (l01New_big n c a _ _ HI.out).mono ?_
  rintro e w1 ⟨rfl, hc, hb, hlt⟩
  obtain ⟨B, hB⟩ : ∃ B, w.heap.size = B := ⟨_, rfl⟩
  rw [hB] at hc hb hlt HI ⊢
  have HC := hide hc; have HB := hide hb; have HI1 := hide (inBytes_below HI.out hb)
  have HW := hide hB
  clear hc hb hB HI
  go_wp2_with fail
  refine (l02Draw_most B n a 4 _ B (by omega) (by omega) HC.out HI1.out (Nat.le_refl _)).mono ?_
  rintro e w2 ⟨v, R, C, f, rfl, him, ⟨hR, hC⟩, ho, hc, hb⟩
  have hsz := hb.size
  have HC2 := hide hc; have HB2 := hide (HB.out.trans hb); have HI2 := hide (inBytes_below HI1.out hb); have HIM := hide him
  have HV := hide (ownMat_mono ho (show B + 1 ≤ w1.heap.size from hlt) (Nat.le_refl _))
  clear hc hb ho HC HB HI1
  go_wp2_with fail
  refine (l02Copy_any v R C f _ (inMat_own HV.out) HIM.out).mono ?_
  rintro e w3 ⟨u, rfl, hu, hb⟩
  have hsz3 := hb.size
  have HC3 := hide (curAt_below HC2.out hb); have HB3 := hide (HB2.out.trans (hb.mono (by omega))); have HI3 := hide (inBytes_below HI2.out (hb.mono HI2.out.2.1))
  have HV3 := hide (ownMat_mono (ownMat_below HV.out hb) (Nat.le_refl _) hsz3)
  have HU := hide (ownMat_mono hu (show B + 1 ≤ w2.heap.size by omega) (Nat.le_refl _))
  clear hu hb HC2 HB2 HI2 HV
  go_wp2_with fail
  refine (l01Below_any B n a 6 _ B (by omega) (by omega) HC3.out HI3.out (Nat.le_refl _)).mono ?_
  rintro e w4 ⟨x, hx0, hx1, rfl, hc, hg⟩
  obtain ⟨k0, rfl⟩ : ∃ k : Nat, x = k := ⟨x.toNat, by omega⟩
  have hk0 : k0 ≤ 5 := by omega
  have hz4 := hg.size
  have HC4 := hide hc; have HI4 := hide (inBytes_grown HI3.out hg (Nat.le_refl _))
  have HV4 := hide (ownMat_mono (ownMat_cur HV3.out hg (Nat.lt_succ_self _)) (Nat.le_refl _) hz4); have HU4 := hide (ownMat_mono (ownMat_cur HU.out hg (Nat.lt_succ_self _)) (Nat.le_refl _) hz4)
  have HB4 := hide (HB3.out.trans (grown_below hg (fun k hk => by cases hk; exact Nat.le_refl _) (by omega)))
  have HSF : Hid (SameF R C f f) := hide ⟨fun _ _ => rfl, fun _ _ => rfl⟩
  have hB4 : B < w4.heap.size := by omega
  clear hc hg hx0 hx1 HC3 HI3 HV3 HU HB3
  go_wp2
  go_loopw [6, 7] (fun y t w' => ∃ (k : Nat) (g : Nat → Nat → Int) (u : Value), k ≤ 5 ∧ t = .int .i64 k ∧ u = y ∧ Img R C g ∧ SameF R C f g ∧ B < w'.heap.size ∧ OwnMat w' (B + 1) w'.heap.size u (mkM R C g) ∧ OwnMat w' (B + 1) w'.heap.size v (mkM R C f) ∧ CurAt w' B a n ∧ InBytes w' B a n ∧ Below B w w') (fun _ t _ => (intOf t).toNat)
  case atStart => exact ⟨k0, f, _, hk0, rfl, rfl, HIM.out, HSF.out, hB4, HU4.out, HV4.out, HC4.out, HI4.out, HB4.out⟩
  case round =>
    clear HC4 HI4 HV4 HU4 HB4 HSF hB4 hk0 hz4 hsz hsz3 hlt
    obtain ⟨k, g, u, hk, rfl, rfl, hig, hsf, hlt, ho, hv, hc, hi, hb⟩ := hrel
    have HIG := hide hig; have HSF := hide hsf; have HU := hide ho; have HV := hide hv; have HC := hide hc; have HI := hide hi; have HB := hide hb
    clear hig hsf ho hv hc hi hb
    cases k with
    | zero =>
      go_wp2
      go_ret2
      exact ⟨_, _, R, C, f, g, rfl, HIM.out, HIG.out, HSF.out, hR, hC, inMat_own HV.out, inMat_own HU.out, by rw [HW.out]; exact HB.out⟩
    | succ k =>
      have hkI : (0 : Int) < (k : Int) + 1 := by omega
      go_wp2_with fail
      refine (specSwitches_node _ _ (inMat_own HU.out) ⟨g, rfl, HIG.out⟩).mono ?_
      rintro e w6 ⟨sv, rfl, hsv, hb⟩
      have hz6 := hb.size
      obtain ⟨asl, cs, rfl⟩ := ownA_slice hsv
      have HU6 := hide (ownMat_mono (ownMat_below HU.out hb) (Nat.le_refl _) hz6); have HV6 := hide (ownMat_mono (ownMat_below HV.out hb) (Nat.le_refl _) hz6); have HC6 := hide (curAt_below HC.out hb); have HI6 := hide (inBytes_below HI.out (hb.mono HI.out.2.1)); have HB6 := hide (HB.out.trans (hb.mono (by omega)))
      have HSV := hide (ownSws_base hsv (show B + 1 ≤ wr.heap.size from hlt))
      have HSM := hide (sws_small HIG.out hR hC)
      have HAT := hide fun j (h : j < (swsM (mkM R C g)).length) => sws_at ⟨g, rfl, HIG.out⟩ h
      obtain ⟨S, hS⟩ : ∃ S, S = swsM (mkM R C g) := ⟨_, rfl⟩
      rw [← hS] at HSV HSM HAT ⊢
      obtain ⟨N, hN⟩ : ∃ N, N = S.length := ⟨_, rfl⟩
      have HN := hide hN
      rw [← hN] at HSM HAT HSV ⊢
      have hN256 := HSM.out
      clear hsv hb HC HI HU HV HB HSM hS hN
      cases N with
      | zero =>
        go_wp2
        go_roundw
        case rel => exact ⟨k, g, u, by omega, by go_num, rfl, HIG.out, HSF.out, by omega, HU6.out, HV6.out, HC6.out, HI6.out, HB6.out⟩
        case measure => simp [intOf]
      | succ N =>
        have hNI : (0 : Int) < (N : Int) + 1 := by omega
        obtain ⟨gs, cs2, e, -, hgs, -⟩ := ownA_some HSV.out (by rw [← HN.out]; omega)
        injection e with e1 e2 e3
        subst e1
        clear e2 e3
        go_wp2_with fail
        refine (l01Below_any B n a ((N + 1 : Nat) : Int) _ B (by omega) (by omega) HC6.out HI6.out (Nat.le_refl _)).mono ?_
        rintro e w7 ⟨x, hx0, hx1, rfl, hc, hg⟩
        obtain ⟨j, rfl⟩ : ∃ j : Nat, x = j := ⟨x.toNat, by omega⟩
        have hj : j < N + 1 := by omega
        have hjI : (j : Int) < (N : Int) + 1 := by omega
        have hz7 := hg.size
        have HSB := hide (HAT.out j hj)
        have hsc := sws_cell (ownSws_cur HSV.out hg (Nat.lt_succ_self _)) j (by rw [← HN.out]; exact hj)
        obtain ⟨s, hs⟩ : ∃ s, s = S.getD j zeroSw := ⟨_, rfl⟩
        rw [← hs] at HSB hsc
        have HU7 := hide (ownMat_mono (ownMat_cur HU6.out hg (Nat.lt_succ_self _)) (Nat.le_refl _) hz7); have HV7 := hide (ownMat_mono (ownMat_cur HV6.out hg (Nat.lt_succ_self _)) (Nat.le_refl _) hz7)
        have HC7 := hide hc; have HI7 := hide (inBytes_grown HI6.out hg (Nat.le_refl _)); have HB7 := hide (HB6.out.trans (grown_below hg (fun k hk => by cases hk; exact Nat.le_refl _) (by omega)))
        clear hc hg hx0 hx1 hs HU6 HV6 HC6 HI6 HB6 HAT HSV
        go_wp2_with (with_reducible refine wpList_loadSwC hsc 33 rfl rfl _ rfl rfl ?_)
        refine (specApply_node _ _ (inMat_own HU7.out) ⟨g, rfl, HIG.out⟩ HSB.out).mono ?_
        rintro e w8 ⟨y, rfl, hy, hb⟩
        have hz8 := hb.size
        have hsb := HSB.out
        rw [swB_mk HIG.out] at hsb
        rw [flipM_mk HIG.out] at hy
        have HY := hide (ownMat_mono hy (show B + 1 ≤ w7.heap.size by omega) (Nat.le_refl _)); have HFS := hide hsb
        have HV8 := hide (ownMat_mono (ownMat_below HV7.out hb) (Nat.le_refl _) hz8); have HC8 := hide (curAt_below HC7.out hb); have HI8 := hide (inBytes_below HI7.out (hb.mono HI7.out.2.1)); have HB8 := hide (HB7.out.trans (hb.mono (by omega)))
        clear hy hb hsb hsc
        go_wp2
        go_roundw
        case rel => exact ⟨k, flipF g s, y, by omega, by go_num, rfl, flipF_img HIG.out s, sameF_flipF HIG.out HSF.out HFS.out, by omega, HY.out, HV8.out, HC8.out, HI8.out, HB8.out⟩
        case measure => simp [intOf]
end Go.Proofs.Ytiajdmoppgpgnaa
/-
  The helpers of the laws that are no exact ones: same, alike.
-/
namespace Go.Proofs.Ytiajdmoppgpgnaa
open Go.RowKit
set_option maxHeartbeats 1000000 in
theorem same_any (va vb : Value) (r s : List Int) (w : World) (ha : InRow w va r) (hb : InRow w vb s) :
    Calls Try.prog 48 #[va, vb] w fun e w' => e = .returned (.bool (r == s)) ∧ w = w' := by
  obtain ⟨a, ca, rfl, hma, hpa⟩ := ha
  obtain ⟨b, cb, rfl, hmb, hpb⟩ := hb
  unfold maxLen at hma hmb
  by_cases hlen : r.length = s.length
  · by_cases h0 : r.length = 0
    · have hr : r = [] := List.eq_nil_of_length_eq_zero h0
      have hs : s = [] := List.eq_nil_of_length_eq_zero (by omega)
      subst hr; subst hs
      clear hpa hpb hma hmb hlen h0
      go_enter Try.func48, Try.ntmps48
      go_wp2
      go_loop [14] (fun i => i = .int .i64 0) (fun _ => 0)
      case atStart => rfl
      case round =>
        obtain rfl := hrel
        go_wp2
        go_ret
        exact ⟨rfl, rfl⟩
    · obtain ⟨ga, oa, rfl, -, hca⟩ := hpa.resolve_left h0
      obtain ⟨gb, ob, rfl, -, hcb⟩ := hpb.resolve_left (by omega)
      have HA := hide hca; have HB := hide hcb; have HL := hide hlen
      obtain ⟨n, hn⟩ : ∃ n, n = r.length := ⟨_, rfl⟩
      have HN := hide hn
      have HM : Hid (s.length = n) := hide (by omega)
      rw [← hlen, ← hn]
      rw [← hn] at hma
      clear hpa hpb hca hcb h0 hmb hlen hn
      go_enter Try.func48, Try.ntmps48
      go_wp2
      go_loop [14] (fun i => ∃ k : Nat, k ≤ n ∧ i = .int .i64 k ∧ ∀ t, (h1 : t < r.length) → (h2 : t < s.length) → t < k → r[t] = s[t]) (fun i => n - (intOf i).toNat)
      case atStart => exact ⟨0, Nat.zero_le _, rfl, fun t _ _ h => absurd h (Nat.not_lt_zero _)⟩
      case round =>
        obtain ⟨k, hk, rfl, hall⟩ := hrel
        have HH := hide hall
        clear hall
        by_cases hlt : k < n
        · have hkr : k < r.length := by rw [← HN.out]; exact hlt
          have hks : k < s.length := by rw [HM.out]; exact hlt
          have hxa := HA.out k hkr
          have hxb := HB.out k hks
          have HNO := hide (fun h => sameRow_no2 k hkr hks h)
          have HST : Hid (r[k] = s[k] → ∀ t, (h1 : t < r.length) → (h2 : t < s.length) → t < k + 1 → r[t] = s[t]) := hide fun h t h1 h2 ht => by
            by_cases e : t = k
            · subst e; exact h
            · exact HH.out t h1 h2 (by omega)
          obtain ⟨x, hx⟩ : ∃ x, x = r[k] := ⟨_, rfl⟩
          obtain ⟨y, hy⟩ : ∃ y, y = s[k] := ⟨_, rfl⟩
          rw [← hx, ← hy] at HNO HST
          rw [← hx] at hxa
          rw [← hy] at hxb
          clear hx hy
          by_cases e : x = y
          · subst e
            have HST := hide (HST.out rfl)
            go_wp2
            go_round
            case rel => exact ⟨k + 1, by omega, by go_num, HST.out⟩
            case measure => simp [intOf]; omega
          · have HF := hide (HNO.out e)
            have hne : (x == y) = false := by simpa using e
            have hne2 : (x != y) = true := by simpa using e
            clear e
            go_wp2
            go_ret
            exact ⟨ret_bool HF.out.symm, rfl⟩
        · have HY := hide (sameRow_yes HL.out fun t h1 h2 => HH.out t h1 h2 (by have := HN.out; omega))
          go_wp2
          go_ret
          exact ⟨ret_bool HY.out.symm, rfl⟩
  · have HF := hide (sameRow_no hlen)
    obtain ⟨n, hn⟩ : ∃ n, n = r.length := ⟨_, rfl⟩
    obtain ⟨k, hk⟩ : ∃ k, k = s.length := ⟨_, rfl⟩
    rw [← hn, ← hk] at hlen ⊢
    rw [← hn] at hma
    rw [← hk] at hmb
    have hne : ((n : Int) == (k : Int)) = false := by simp; omega
    have hne2 : ((n : Int) != (k : Int)) = true := by simp; omega
    clear hpa hpb hn hk hlen
    go_enter Try.func48, Try.ntmps48
    go_wp2
    go_ret
    exact ⟨ret_bool HF.out.symm, rfl⟩


set_option maxHeartbeats 1000000 in
theorem alike_any (va vb : Value) (m l : List (List Int)) (w : World) (ha : InMat w va m) (hb : InMat w vb l) :
    Calls Try.prog 54 #[va, vb] w fun e w' => e = .returned (.bool (m == l)) ∧ Below w.heap.size w w' := by
  obtain ⟨a, ca, rfl, hma, hpa⟩ := ha
  obtain ⟨b, cb, rfl, hmb, hpb⟩ := hb
  unfold maxLen at hma hmb
  by_cases hlen : m.length = l.length
  · by_cases h0 : m.length = 0
    · have hr : m = [] := List.eq_nil_of_length_eq_zero h0
      have hs : l = [] := List.eq_nil_of_length_eq_zero (by omega)
      subst hr; subst hs
      clear hpa hpb hma hmb hlen h0
      go_enter Try.func54, Try.ntmps54
      go_wp2
      go_loop [14] (fun i => i = .int .i64 0) (fun _ => 0)
      case atStart => rfl
      case round =>
        obtain rfl := hrel
        go_wp2
        go_ret
        exact ⟨rfl, Below.refl _ _⟩
    · obtain ⟨ga, oa, rfl, hga, hca⟩ := hpa.resolve_left h0
      obtain ⟨gb, ob, rfl, hgb, hcb⟩ := hpb.resolve_left (by omega)
      have HA := hide hca; have HB := hide hcb; have HL := hide hlen
      obtain ⟨n, hn⟩ : ∃ n, n = m.length := ⟨_, rfl⟩
      have HN := hide hn
      have HM : Hid (l.length = n) := hide (by omega)
      rw [← hlen, ← hn]
      rw [← hn] at hma
      clear hpa hpb hca hcb h0 hmb hlen hn
      go_enter Try.func54, Try.ntmps54
      go_wp2
      go_loopw [14] (fun i w' => ∃ k : Nat, k ≤ n ∧ i = .int .i64 k ∧ (∀ t, (h1 : t < m.length) → (h2 : t < l.length) → t < k → (m[t] == l[t]) = true) ∧ Below w.heap.size w w') (fun i _ => n - (intOf i).toNat)
      case atStart => exact ⟨0, Nat.zero_le _, rfl, fun t _ _ h => absurd h (Nat.not_lt_zero _), Below.refl _ _⟩
      case round =>
        obtain ⟨k, hk, rfl, hall, hbb⟩ := hrel
        have HH := hide hall; have HBB := hide hbb
        clear hall hbb
        by_cases hlt : k < n
        · have hkr : k < m.length := by rw [← HN.out]; exact hlt
          have hks : k < l.length := by rw [HM.out]; exact hlt
          obtain ⟨ua, hxa, hra⟩ := HA.out k hkr
          obtain ⟨ub, hxb, hrb⟩ := HB.out k hks
          have hxa := below_cell HBB.out hga hxa
          have hxb := below_cell HBB.out hgb hxb
          have HRA := hide (inRow_below hra HBB.out)
          have HRB := hide (inRow_below hrb HBB.out)
          have HNO := hide (fun h => sameMat_no2 k hkr hks h)
          have HST : Hid ((m[k] == l[k]) = true → ∀ t, (h1 : t < m.length) → (h2 : t < l.length) → t < k + 1 → (m[t] == l[t]) = true) := hide fun h t h1 h2 ht => by
            by_cases e : t = k
            · subst e; exact h
            · exact HH.out t h1 h2 (by omega)
          clear hra hrb
          cases e : (m[k] == l[k]) with
          | true =>
            have HE := hide e
            have HST := hide (HST.out e)
            clear e
            go_wp2_with (go_at_call 48; refine (same_any _ _ _ _ _ HRA.out HRB.out).mono ?_; rw [HE.out]; rintro e w9 ⟨rfl, rfl⟩)
            go_roundw
            case rel => exact ⟨k + 1, by omega, by go_num, HST.out, HBB.out⟩
            case measure => simp [intOf]; omega
          | false =>
            have HE := hide e
            have HF := hide (HNO.out e)
            clear e
            go_wp2_with (go_at_call 48; refine (same_any _ _ _ _ _ HRA.out HRB.out).mono ?_; rw [HE.out]; rintro e w9 ⟨rfl, rfl⟩)
            go_ret
            exact ⟨ret_bool HF.out.symm, HBB.out⟩
        · have HY := hide (sameMat_yes HL.out fun t h1 h2 => HH.out t h1 h2 (by have := HN.out; omega))
          go_wp2
          go_ret
          exact ⟨ret_bool HY.out.symm, HBB.out⟩
  · have HF := hide (sameMat_no hlen)
    obtain ⟨n, hn⟩ : ∃ n, n = m.length := ⟨_, rfl⟩
    obtain ⟨k, hk⟩ : ∃ k, k = l.length := ⟨_, rfl⟩
    rw [← hn, ← hk] at hlen ⊢
    rw [← hn] at hma
    rw [← hk] at hmb
    have hne : ((n : Int) == (k : Int)) = false := by simp; omega
    have hne2 : ((n : Int) != (k : Int)) = true := by simp; omega
    clear hpa hpb hn hk hlen
    go_enter Try.func54, Try.ntmps54
    go_wp2
    go_ret
    exact ⟨ret_bool HF.out.symm, Below.refl _ _⟩

theorem alike_yes (va vb : Value) (m : List (List Int)) (w : World) (ha : InMat w va m) (hb : InMat w vb m) :
    Calls Try.prog 54 #[va, vb] w fun e w' => e = .returned (.bool true) ∧ Below w.heap.size w w' := by
  have h := alike_any va vb m m w ha hb
  rw [beq_self_eq_true] at h; exact h
end Go.Proofs.Ytiajdmoppgpgnaa
/-
  The law FnTwoWays, walked.
-/
namespace Go.Proofs.Ytiajdmoppgpgnaa
open Go.RowKit Go.Katz
set_option maxRecDepth 100000

theorem rowS_succ (n : Nat) (g : Nat → Int) : ints (rowF (n + 1) g) = ints (rowF n g) ++ [.int .i64 (g n)] := by simp [rowF, ints, List.range_succ]
/-- The directions of rows and columns, as the literal lays them. -/
theorem twoD_lit (w : World) : DrsC (w.alloc (.cells #[.int .i64 1, .int .i64 0, .int .i64 0, .int .i64 1] 36)) (.slice (some ⟨w.heap.size, 0, none⟩) 2 2) twoD := by
  have h0 : (w.alloc (.cells #[.int .i64 1, .int .i64 0, .int .i64 0, .int .i64 1] 36)).heap[w.heap.size]? = some (.cells #[.int .i64 1, .int .i64 0, .int .i64 0, .int .i64 1] 36 (0, 0)) := heap_alloc_new w _
  refine ⟨_, 2, rfl, Nat.le_refl _, by unfold maxLen; omega, .inr ⟨w.heap.size, 0, rfl, by simp, fun i hi => ?_⟩⟩
  have hi2 : i < 2 := hi
  match i, hi2 with
  | 0, _ => exact ⟨by rw [cell_of_row _ _ _ _ _ _ h0]; rfl, by rw [cell_of_row _ _ _ _ _ _ h0]; rfl⟩
  | 1, _ => exact ⟨by rw [cell_of_row _ _ _ _ _ _ h0]; rfl, by rw [cell_of_row _ _ _ _ _ _ h0]; rfl⟩
theorem pair_lit (w : World) (p q : Int) : InRow (w.alloc (.cells #[.int .i64 p, .int .i64 q] 3)) (.slice (some ⟨w.heap.size, 0, none⟩) 2 2) [p, q] := by
  have h0 : (w.alloc (.cells #[.int .i64 p, .int .i64 q] 3)).heap[w.heap.size]? = some (.cells #[.int .i64 p, .int .i64 q] 3 (0, 0)) := heap_alloc_new w _
  refine ⟨_, 2, rfl, by unfold maxLen; simp, .inr ⟨w.heap.size, 0, rfl, by simp, fun i hi => ?_⟩⟩
  have hi2 : i < 2 := hi
  match i, hi2 with
  | 0, _ => rw [cell_of_row _ _ _ _ _ _ h0]; rfl
  | 1, _ => rw [cell_of_row _ _ _ _ _ _ h0]; rfl
set_option maxHeartbeats 8000000 in
theorem lawTwoWays_walk (a : Option Addr) (n c : Nat) (w : World) (hin : InBytes w w.heap.size a n) :
    Calls Try.prog 13 #[.slice a n c] w fun e w' => e = .returned (.bool true) ∧ Below w.heap.size w w' := by
  have HIN := hide hin
  clear hin
  by_cases hbig : (1048576 : Int) < n
  · go_enter Try.func13, Try.ntmps13
    go_wp2
    go_ret
    exact ⟨rfl, Below.refl _ _⟩
  go_enter Try.func13, Try.ntmps13
  go_wp2_with fail
  refine (makePair_any n c a _ HIN.out).mono ?_
  rintro e w1 ⟨v, u, R, C, f, g, rfl, hI, hJ, hs, hR, hC, hv, hu, hb⟩
  have HB := hide hb
  have HV := hide hv; have HU := hide hu
  have HI := hide hI; have HJ := hide hJ
  have HADD := hide (sub_add hI hJ)
  have HGH := hide (sub_ghost hI hJ hs)
  have r1 := hI.r1; have c1 := hI.c1
  obtain ⟨gm, om, cm, rfl, hgm, hrm⟩ := inMat_img hv (by omega) (by omega)
  obtain ⟨gb, ob, cb, rfl, hgb, hrb⟩ := inMat_img hu (by omega) (by omega)
  have HRM := hide hrm; have HRB := hide hrb
  clear hI hJ hs hv hu hb hrm hrb
  go_wp2_with fail
  go_loopw [5, 27] (fun u i w' => ∃ (y : Nat) (v : Value), y ≤ R ∧ i = .int .i64 y ∧ v = u ∧ OwnMat w' w1.heap.size w'.heap.size v (mkM y C (subF f g)) ∧ Below w1.heap.size w1 w') (fun _ i _ => R - (intOf i).toNat)
  case atStart => exact ⟨0, _, by omega, rfl, rfl, ⟨[], World.ownsRow_made (base := w1.heap.size) w1 #[] 0 (Nat.le_refl _) (Nat.zero_le _) rfl, (fun k e => by simp [Value.ownBlock] at e; subst e; simp), (fun i h => absurd h (Nat.not_lt_zero _)), fun i j _ h => absurd h (Nat.not_lt_zero _)⟩, (Below.refl _ _).alloc (Nat.le_refl _) _⟩
  case round =>
    obtain ⟨wo, rfl⟩ : ∃ wo, wo = wr := ⟨_, rfl⟩
    obtain ⟨y, v, hy, rfl, rfl, hown, hbo⟩ := hrel
    have HO := hide hown; have HBO := hide hbo
    clear hown hbo
    by_cases hlt : y < R
    · have hyI : (y : Int) < R := by omega
      have hsz := HBO.out.size
      obtain ⟨g1, o1, k1, hx1, hg1, hc1⟩ := HRM.out y hlt
      have hx1 := below_cell HBO.out hgm hx1
      have HC1 := hide hc1
      have HX : Hid ((wo.alloc (.cells #[] 3)).ownsRow wo.heap.size 3 1 (.slice (some ⟨wo.heap.size, 0, none⟩) 0 0) 0 []) := hide (World.ownsRow_made (base := wo.heap.size) wo #[] 0 (Nat.le_refl _) (Nat.zero_le _) rfl)
      have HAL := hide ((Below.refl wo.heap.size wo).alloc (Nat.le_refl _) (.cells #[] 3))
      have HOA := hide (ownMat_below HO.out HAL.out)
      clear hc1
      go_wp2
      clear hx1
      go_loopw [8, 35] (fun u i w' => ∃ (x : Nat) (q : Value), x ≤ C ∧ i = .int .i64 x ∧ q = u ∧ w'.ownsRow wo.heap.size 3 1 q x (ints (rowF x (subF f g y))) ∧ OwnMat w' w1.heap.size wo.heap.size v (mkM y C (subF f g)) ∧ Below wo.heap.size wo w') (fun _ i _ => C - (intOf i).toNat)
      case atStart => exact ⟨0, _, by omega, rfl, rfl, HX.out, HOA.out, HAL.out⟩
      case round =>
        clear HX HAL HOA
        obtain ⟨x, q, hx, rfl, rfl, hrow, hom, hbi⟩ := hrel
        have HR := hide hrow; have HM := hide hom; have HBI := hide hbi
        clear hrow hom hbi
        have hsi := HBI.out.size
        by_cases hlx : x < C
        · have hxI : (x : Int) < C := by omega
          have HB2 := hide (HBO.out.trans (HBI.out.mono hsz))
          obtain ⟨g2, o2, k2, hx2, hg2, hc2⟩ := HRB.out y hlt
          have hx2 := below_cell HB2.out hgb hx2
          have hfx := below_cell HB2.out hg1 (HC1.out x hlx)
          have hgx := below_cell HB2.out hg2 (hc2 x hlx)
          have hd := sub_small HI.out HJ.out hlt hlx
          obtain ⟨fv, hfv⟩ : ∃ fv, fv = f y x := ⟨_, rfl⟩
          obtain ⟨gv, hgv⟩ : ∃ gv, gv = g y x := ⟨_, rfl⟩
          rw [← hfv] at hfx
          rw [← hgv] at hgx
          have hdd : -1 ≤ gv - fv ∧ gv - fv ≤ 1 := by rw [hgv, hfv]; exact hd
          have HSV := hide (show ints (rowF (x + 1) (subF f g y)) = ints (rowF x (subF f g y)) ++ [.int .i64 (gv - fv)] by rw [rowS_succ, hgv, hfv]; rfl)
          clear hc2 hd hfv hgv
          go_wp2_with (at_builtin; refine wpList_push HR.out (.int .i64 (gv - fv)) (.int .i64 0) rfl _ _ rfl Try.underlying33 Try.infoInt rfl (by decide) rfl rfl rfl (by omega) hsi ?_; intro v' w6 hown1 hb1 hgr1)
          go_roundw
          case rel => exact ⟨x + 1, _, by omega, by go_num, rfl, by rw [HSV.out]; exact hown1, ownMat_within HM.out (within_grown (lo := wo.heap.size) (hi := w6.heap.size) hgr1 fun k e => ⟨(HR.out.lt k e).1, Nat.lt_of_lt_of_le (HR.out.lt k e).2 hgr1.size⟩) (.inl (Nat.le_refl _)), HBI.out.trans hb1⟩
          case measure => simp [intOf]; omega
        · obtain rfl : x = C := by omega
          obtain ⟨ua, uc, rfl⟩ := own_slice HR.out
          obtain ⟨vs, hvv, hvh, hvr, hva⟩ := HM.out
          have hvl := mkM_len y x (subF f g)
          rw [hvl] at hvv
          have HVV := hide hvv; have HVR := hide hvr; have HVA := hide hva
          clear hvv hvh hvr hva hvl
          go_wp2_with (at_builtin; refine wpList_push HVV.out (.slice ua x uc) (.slice none 0 0) rfl _ _ rfl Try.underlying29 Try.infoInts rfl (by decide) rfl rfl rfl (by omega) (by omega) ?_; intro v' w6 hown1 hb1 hgr1)
          go_roundw
          case rel =>
            have hs6 := hb1.size
            have hp := ownMat_push (r := rowF x (subF f g y)) (hi' := w6.heap.size) HVR.out HVA.out (by rw [mkM_len]; exact HVV.out) (by rw [rowF_len]; exact HR.out) hsz hs6 (by omega) hgr1 (by rw [mkM_len]; exact hown1) (fun k e => (hown1.lt k e).2)
            rw [← mkM_succ] at hp
            exact ⟨y + 1, _, by omega, by go_num, rfl, hp, (HBO.out.trans (HBI.out.mono hsz)).trans hb1⟩
          case measure => simp [intOf]; omega
    · obtain rfl : y = R := by omega
      obtain ⟨vg, vn, vc, rfl⟩ := ownMat_slice HO.out
      have HLIT : Hid (∀ w : World, DrsC (w.alloc (.cells #[.int .i64 1, .int .i64 0, .int .i64 0, .int .i64 1] 36)) (.slice (some ⟨w.heap.size, 0, none⟩) 2 2) twoD) := hide twoD_lit
      have HAL := hide ((Below.refl wo.heap.size wo).alloc (Nat.le_refl _) (.cells #[.int .i64 1, .int .i64 0, .int .i64 0, .int .i64 1] 36))
      have HL2 := hide (HLIT.out wo)
      have HB2 := hide (HBO.out.trans (HAL.out.mono HBO.out.size))
      have HV2 := hide (inMat_below HV.out HB2.out)
      have HU2 := hide (inMat_below HU.out HB2.out)
      have HG2 := hide (inMat_below (inMat_own HO.out) HAL.out)
      have HADC := hide (implAddGhost_any _ _ _ _ 0 0 _ HV2.out HG2.out)
      rw [HADD.out.1, HADD.out.2] at HADC
      obtain ⟨t, ht⟩ : ∃ t, t = (mkM y C f == mkM y C g) := ⟨_, rfl⟩
      have HT := hide ht
      rw [← ht] at HGH
      have HQ := hide bg_two
      clear ht
      cases t
      all_goals
        go_wp2_with (first | ((with_reducible refine HADC.out.mono ?_); rintro e w3 ⟨x3, rfl, ho3, hb3⟩; have HX3 := hide (inMat_own ho3); have HV3 := hide (inMat_below HV2.out hb3); have HU3 := hide (inMat_below HU2.out hb3); have HG3 := hide (inMat_below HG2.out hb3); have HL3 := hide (drsC_below HL2.out hb3); have HB3 := hide (HB2.out.trans (hb3.mono HB2.out.size)); clear ho3 hb3) | ((with_reducible refine (alike_yes _ _ _ _ HX3.out HU3.out).mono ?_); rintro e w4 ⟨rfl, hb4⟩; have HV4 := hide (inMat_below HV3.out hb4); have HU4 := hide (inMat_below HU3.out hb4); have HG4 := hide (inMat_below HG3.out hb4); have HL4 := hide (drsC_below HL3.out hb4); have HB4 := hide (HB3.out.trans (hb4.mono HB3.out.size)); clear hb4) | ((with_reducible refine (implIsGhost_any _ _ _ _ _ HG4.out HL4.out).mono ?_); rw [HGH.out]; rintro e w5 ⟨rfl, hb5⟩; have HV5 := hide (inMat_below HV4.out hb5); have HU5 := hide (inMat_below HU4.out hb5); have HL5 := hide (drsC_below HL4.out hb5); have HB5 := hide (HB4.out.trans (hb5.mono HB4.out.size)); clear hb5) | ((with_reducible refine (alike_any _ _ _ _ _ HV5.out HU5.out).mono ?_); rw [← HT.out]; rintro e w6 ⟨rfl, hb6⟩; have HL6 := hide (drsC_below HL5.out hb6); have HB6 := hide (HB5.out.trans (hb6.mono HB5.out.size)); clear hb6))
        refine (implBasicGhost_any _ twoD _ HL6.out).mono ?_
        rw [HQ.out.1, HQ.out.2]
        rintro e w7 ⟨q, rfl, ho7, hb7⟩
        have HB7 := hide (HB6.out.trans (hb7.mono HB6.out.size))
        obtain ⟨qa, qc, rfl, -, hqp⟩ := inMat_own ho7
        obtain ⟨qg, qo, rfl, hqg, hqc⟩ := hqp.resolve_left (by decide)
        obtain ⟨u0, hu0, hr0⟩ := hqc 0 (by decide)
        obtain ⟨u1, hu1, hr1⟩ := hqc 1 (by decide)
        have HR0 := hide hr0; have HR1 := hide hr1
        have HP0 := hide (pair_lit w7 1 (-1))
        have HP1 := hide (show InRow ((w7.alloc (.cells #[.int .i64 1, .int .i64 (-1)] 3)).alloc (.cells #[.int .i64 (-1), .int .i64 1] 3)) (.slice (some ⟨w7.heap.size + 1, 0, none⟩) 2 2) [-1, 1] by
          have h := pair_lit (w7.alloc (.cells #[.int .i64 1, .int .i64 (-1)] 3)) (-1) 1
          rw [show (w7.alloc (.cells #[.int .i64 1, .int .i64 (-1)] 3)).heap.size = w7.heap.size + 1 by simp] at h
          exact h)
        have HA7 := hide fun (w8 : World) (p q : Int) => ((Below.refl w8.heap.size w8).alloc (Nat.le_refl _) (.cells #[.int .i64 p, .int .i64 q] 3))
        have hu1' := below_cell (HA7.out w7 1 (-1)) hqg hu1
        rw [Nat.add_zero] at hu0
        clear ho7 hb7 hqp hqc hr0 hr1 hu1
        go_wp2_with (first | ((with_reducible refine (same_any _ _ _ _ _ (inRow_below HR0.out (HA7.out w7 1 (-1))) HP0.out).mono ?_); rintro e w8 ⟨rfl, rfl⟩) | ((with_reducible refine (same_any _ _ _ _ _ (inRow_below (inRow_below HR1.out (HA7.out w7 1 (-1))) (HA7.out _ (-1) 1)) HP1.out).mono ?_); rintro e w9 ⟨rfl, rfl⟩))
        go_ret
        exact ⟨rfl, HB.out.trans (((HB7.out.alloc HB7.out.size _).alloc (Nat.le_trans HB7.out.size (by simp)) _).mono HB.out.size)⟩
end Go.Proofs.Ytiajdmoppgpgnaa
