/-
  switches of the program: all switches of an image, in order.
-/
import Derived.Test.YtnhijmhambggbaaPairs
import Derived.Test.YtnhijmhambggbaaSwd
namespace Go.Proofs.Ytnhijmhambggbaa
open Go.RowKit

def kp (p : Nat) : Nat := [1, 2, 3, 4, 7, 8, 9, 13, 14, 19].getD p 25
theorem pairs_len : (upP 25).length = 10 := by decide +kernel
theorem pairs_at : ∀ p, p < 10 → (upP 25)[p]? = some (kp p / 5, kp p % 5) := by decide +kernel
theorem kp_in : ∀ p, p < 10 → kp p < 25 ∧ kp p / 5 < kp p % 5 := by decide +kernel
theorem kp_next : ∀ p, p < 10 → kp p < kp (p + 1) ∧ kp (p + 1) ≤ 25 ∧ ∀ c, c < 25 → kp p < c → c < kp (p + 1) → ¬ c / 5 < c % 5 := by decide +kernel
theorem kp_zero : kp 0 = 1 := rfl
theorem kp_ten : kp 10 = 25 := rfl
theorem cellsP_at : ∀ (l : List (Nat × Nat)) (i a b : Nat), l[i]? = some (a, b) → (cellsP l)[i * 2]? = some (.int .i64 (a : Int)) ∧ (cellsP l)[i * 2 + 1]? = some (.int .i64 (b : Int))
  | [], i, a, b, h => by simp at h
  | p :: l, 0, a, b, h => by
    simp only [List.getElem?_cons_zero, Option.some.injEq] at h
    subst h
    exact ⟨rfl, rfl⟩
  | p :: l, i + 1, a, b, h => by
    have := cellsP_at l i a b (by simpa using h)
    have e : cellsP (p :: l) = [.int .i64 (p.1 : Int), .int .i64 (p.2 : Int)] ++ cellsP l := by simp [cellsP]
    rw [e]
    refine ⟨?_, ?_⟩
    · rw [List.getElem?_append_right (by simp; omega)]
      simpa [show (i + 1) * 2 - 2 = i * 2 by omega] using this.1
    · rw [List.getElem?_append_right (by simp; omega)]
      simpa [show (i + 1) * 2 + 1 - 2 = i * 2 + 1 by omega] using this.2
theorem swB_order {m : List (List Int)} {i : Nat} (h : ¬ (i / 125 < i / 25 % 5 ∧ i / 5 % 5 < i % 5)) : swB m (decS i) = false := by
  rw [Bool.eq_false_iff]
  intro e
  obtain ⟨a, b, c, d, e1, h1⟩ := swF_iff.1 e
  obtain ⟨h2, h3, -⟩ := four_iff.1 h1
  unfold decS at e1
  simp only [Sw.mk.injEq] at e1
  omega
theorem dec_pair (p q : Nat) (hq : q < 25) : decS (25 * p + q) = ⟨((p / 5 : Nat) : Int), ((p % 5 : Nat) : Int), ((q / 5 : Nat) : Int), ((q % 5 : Nat) : Int)⟩ := by
  unfold decS
  rw [show (25 * p + q) / 125 = p / 5 by omega, show (25 * p + q) / 25 % 5 = p % 5 by omega, show (25 * p + q) / 5 % 5 = q / 5 by omega, show (25 * p + q) % 5 = q % 5 by omega]
theorem upS_in (m : List (List Int)) (p : Nat) : upS m (25 * p + kp 0) = upS m (25 * p) :=
  upS_skip (by omega) fun i h1 h2 => swB_order (by rw [kp_zero] at h2; omega)
theorem upS_q (m : List (List Int)) (p q : Nat) (hq : q < 10) : upS m (25 * p + kp (q + 1)) = upS m (25 * p + kp q + 1) := by
  obtain ⟨h1, h2, h3⟩ := kp_next q hq
  refine upS_skip (by omega) fun i g1 g2 => swB_order ?_
  have := h3 (i - 25 * p) (by omega) (by omega) (by omega)
  omega
theorem upS_p (m : List (List Int)) (p : Nat) (hp : p < 10) : upS m (25 * kp (p + 1)) = upS m (25 * kp p + kp 10) := by
  obtain ⟨h1, h2, h3⟩ := kp_next p hp
  rw [kp_ten]
  refine upS_skip (by omega) fun i g1 g2 => swB_order ?_
  have := h3 (i / 25) (by omega) (by omega) (by omega)
  omega
theorem upS_first (m : List (List Int)) : upS m (25 * kp 0) = [] := by
  rw [upS_skip (k := 0) (by omega) fun i _ h2 => swB_order (by rw [kp_zero] at h2; omega)]; rfl
theorem own_not_blk {w : World} {b1 e1 n1 z1 g n : Nat} {T : TypeId} {F : Nat → Int} {v1 : Value} {xs : List Value} (h1 : w.ownsRow b1 e1 z1 v1 n1 xs) (h2 : Blk w g T n F) (hne : e1 ≠ T) : v1.ownBlock ≠ some g := by
  rcases h1.2 with ⟨rfl, _⟩ | ⟨g1, c1, cur1, rfl, _, hg1, _⟩
  · simp [Value.ownBlock]
  · intro e
    simp only [Value.ownBlock, Option.some.injEq] at e
    subst e
    unfold Blk at h2
    rw [hg1] at h2
    simp only [Option.some.injEq, Obj.cells.injEq] at h2
    exact hne h2.2.1
/-- Two integers in a row, loaded as an array. -/
theorem wpList_loadPair {ops : Array Oper} {rest : List Oper} {o : Oper} {a : Act} {Q : Exit → Act → World → Prop} {W : World} {g k p q : Nat} (h0 : W.cell? ⟨g, k, none⟩ = some (.int .i64 (p : Int))) (h1 : W.cell? ⟨g, k + 1, none⟩ = some (.int .i64 (q : Int)))
    (d : Tmp) (_hd : o.dst = some d) (hgd : o.guard = none) (x : Operand) (ho : o.op = .load 130 x) (hx : a.eval x = .pointer (some ⟨g, k, none⟩))
    (h : wpList Try.prog ops Q rest (a.put o.dst (.agg (vec 2 fun i => ((pickN p q i : Nat) : Int)))) W) : wpList Try.prog ops Q (o :: rest) a W := by
  refine wpList_plain hgd fun K hK => ?_
  have : (execOp a.eval o).run Try.prog W = .ok (.value (.agg (vec 2 fun i => ((pickN p q i : Nat) : Int)))) W := by
    unfold execOp
    simp only [ho, hx]
    go_simp
    rfl
  unfold Oper.wp
  rw [this]
  exact hK _ _ h
theorem Try.sizePair : (Try.prog.info? 130).map (·.size) = some 2 := by kernel_rfl
theorem Try.zeroPair (w : World) : (zeroValue 130).run Try.prog w = .ok (.agg (vec 2 fun _ => 0)) w := Try.zeroValue130 w
set_option maxRecDepth 100000 in
set_option maxHeartbeats 4000000 in
theorem switches_any (R C : Nat) (f : Nat → Nat → Int) (w : World) (hI : Img R C f) : Calls Try.prog 89 #[.agg (vec 25 (imgF R C f))] w (SwsRes (swsM (mkM R C f)) w) := by
  have HHAS := hide fun s w => hasSwitch_any (imgF R C f) s w
  have HH : Hid (∀ s, hasF (imgF R C f) s = swB (mkM R C f) s) := hide fun s => by rw [hasF_img hI, swB_mk hI]
  obtain ⟨m, hm⟩ : ∃ m, m = mkM R C f := ⟨_, rfl⟩
  obtain ⟨F, hF⟩ : ∃ F, F = imgF R C f := ⟨_, rfl⟩
  rw [← hm, ← hF] at HH; rw [← hF] at HHAS; rw [← hm, ← hF]
  clear hm hF hI
  go_enter Try.func89, Try.ntmps89
  go_wp2_with (first | (with_reducible refine wpList_boxVec 25 F 1 rfl rfl (.tmp 0) rfl rfl ?_; intro w1 h1 b1 s1) | (refine (pairsBelow_any _).mono ?_; rintro e w2 ⟨pv, rfl, hp, hb2⟩; have HP0 := hide (ownA_base hp (show w.heap.size + 1 ≤ w1.heap.size by omega)); have HF0 := hide (blk_below h1 hb2); have HB0 := hide (b1.trans (hb2.mono b1.size)); have HZ := hide (show w.heap.size + 1 ≤ w2.heap.size by have := hb2.size; omega); rw [pairs_len] at HP0; obtain ⟨gp, cp, rfl, -⟩ := ownA_some HP0.out (by decide); clear hp hb2 h1 b1 s1))
  go_loopw [3, 13] (fun u t w' => ∃ (p : Nat) (v : Value), p ≤ 10 ∧ t = .int .i64 p ∧ v = u ∧ OwnSws w' (w.heap.size + 1) v (upS m (25 * kp p)) ∧ w'.ownsRow (w.heap.size + 1) 130 2 (.slice (some ⟨gp, 0, none⟩) 10 cp) 10 (cellsP (upP 25)) ∧ Blk w' w.heap.size 88 25 F ∧ w.heap.size + 1 ≤ w'.heap.size ∧ Below w.heap.size w w') (fun _ t _ => 10 - (intOf t).toNat)
  case atStart => exact ⟨0, _, by omega, rfl, rfl, by rw [upS_first]; exact ownSws_nil _ _, HP0.out, HF0.out, HZ.out, HB0.out⟩
  case round =>
    clear HP0 HF0 HB0 HZ
    obtain ⟨p, v, hp, rfl, rfl, ho, hpr, hf, hz, hb⟩ := hrel
    have HO := hide ho; have HP := hide hpr; have HF := hide hf; have HZ := hide hz; have HB := hide hb
    clear ho hpr hf hz hb
    by_cases hlt : p < 10
    · have hpI : (p : Int) < 10 := by omega
      have HKP := hide (kp_in p hlt)
      have HPT := hide (cellsP_at _ _ _ _ (pairs_at p hlt))
      have HUP := hide (upS_p m p hlt)
      obtain ⟨A, hA⟩ : ∃ A, A = kp p := ⟨_, rfl⟩
      have HA := hide hA
      rw [← hA] at HO HKP HPT HUP
      clear hA
      obtain ⟨y1, hy1⟩ : ∃ y, y = A / 5 := ⟨_, rfl⟩
      obtain ⟨y2, hy2⟩ : ∃ y, y = A % 5 := ⟨_, rfl⟩
      have HY1 := hide hy1; have HY2 := hide hy2
      rw [← hy1, ← hy2] at HPT
      have q0 := HP.out.cellAt (p * 2) (by omega)
      have q1 := HP.out.cellAt (p * 2 + 1) (by omega)
      rw [HPT.out.1] at q0; rw [HPT.out.2] at q1
      rw [← upS_in m A] at HO
      clear hy1 hy2
      go_wp2_with (first | (with_reducible refine wpList_loadPair q0 q1 16 rfl rfl _ rfl rfl ?_) | (with_reducible refine wpList_allocVec 2 6 rfl rfl rfl Try.zeroPair ?_; intro w3 h3 b3 s3) | (with_reducible refine wpList_storeVec h3 rfl (.tmp 6) (.tmp 16) rfl rfl rfl Try.sizePair ?_; intro w4 h4 g4 s4))
      have b4 := b3.trans (grown_below g4 (fun k hk => by cases hk; exact Nat.le_refl _) b3.size)
      have HO1 := hide (ownSws_below HO.out b4); have HP1 := hide (ownA_below HP.out b4); have HF1 := hide (blk_below HF.out b4); have HB1 := hide (HB.out.trans (b4.mono HB.out.size)); have HY := hide h4
      have HZ1 := hide (show w.heap.size + 1 ≤ w4.heap.size by have := HZ.out; omega)
      obtain ⟨gy, hgy⟩ : ∃ gy, gy = wr.heap.size := ⟨_, rfl⟩
      rw [← hgy] at HY ⊢
      clear q0 q1 h3 b3 s3 h4 g4 s4 b4 HO HP HF HB HZ hgy
      go_loopw [3, 19] (fun u t w' => ∃ (q : Nat) (v : Value), q ≤ 10 ∧ t = .int .i64 q ∧ v = u ∧ OwnSws w' (w.heap.size + 1) v (upS m (25 * A + kp q)) ∧ w'.ownsRow (w.heap.size + 1) 130 2 (.slice (some ⟨gp, 0, none⟩) 10 cp) 10 (cellsP (upP 25)) ∧ Blk w' w.heap.size 88 25 F ∧ Blk w' gy 130 2 (fun i => ((pickN y1 y2 i : Nat) : Int)) ∧ w.heap.size + 1 ≤ w'.heap.size ∧ Below w.heap.size w w') (fun _ t _ => 10 - (intOf t).toNat)
      case atStart => exact ⟨0, _, by omega, rfl, rfl, HO1.out, HP1.out, HF1.out, HY.out, HZ1.out, HB1.out⟩
      case round =>
        clear HO1 HP1 HF1 HY HZ1 HB1
        obtain ⟨q, v, hq, rfl, rfl, ho, hpr, hf, hy, hz, hb⟩ := hrel
        have HO := hide ho; have HP := hide hpr; have HF := hide hf; have HY := hide hy; have HZ := hide hz; have HB := hide hb
        clear ho hpr hf hy hz hb
        by_cases hlq : q < 10
        · have hqI : (q : Int) < 10 := by omega
          have HKQ := hide (kp_in q hlq)
          have HPT2 := hide (cellsP_at _ _ _ _ (pairs_at q hlq))
          have HUQ := hide (upS_q m A q hlq)
          have HLEN := hide (upS_len m (25 * A + kp q))
          have HDEC := hide (dec_pair A (kp q) HKQ.out.1)
          have HYES := hide (fun h => upS_yes (m := m) (k := 25 * A + kp q) h)
          have HNO := hide (fun h => upS_no (m := m) (k := 25 * A + kp q) h)
          obtain ⟨B, hB⟩ : ∃ B, B = kp q := ⟨_, rfl⟩
          rw [← hB] at HO HKQ HPT2 HUQ HLEN HDEC HYES HNO
          clear hB
          obtain ⟨x1, hx1⟩ : ∃ y, y = B / 5 := ⟨_, rfl⟩
          obtain ⟨x2, hx2⟩ : ∃ y, y = B % 5 := ⟨_, rfl⟩
          rw [← hx1, ← hx2] at HPT2 HDEC
          rw [← HY1.out, ← HY2.out] at HDEC
          rw [HDEC.out] at HYES HNO
          obtain ⟨s, hs⟩ : ∃ s : Sw, s = ⟨y1, y2, x1, x2⟩ := ⟨_, rfl⟩
          have HSV := hide (show Value.agg #[.int .i64 (y1 : Int), .int .i64 (y2 : Int), .int .i64 (x1 : Int), .int .i64 (x2 : Int)] = swV s by rw [hs]; rfl)
          rw [← hs] at HYES HNO
          have q0 := HP.out.cellAt (q * 2) (by omega)
          have q1 := HP.out.cellAt (q * 2 + 1) (by omega)
          rw [HPT2.out.1] at q0; rw [HPT2.out.2] at q1
          have HLN : Hid (25 * A + B < 1000) := hide (by have := HKP.out.1; have := HKQ.out.1; omega)
          clear hx1 hx2 hs
          cases hsb : swB m s with
          | false =>
            have HSB := hide hsb
            have HN := hide (HNO.out hsb)
            clear hsb
            go_wp2_with (first | (with_reducible refine wpList_loadPair q0 q1 22 rfl rfl _ rfl rfl ?_) | (with_reducible refine wpList_allocVec 2 8 rfl rfl rfl Try.zeroPair ?_; intro w5 h5 b5 s5) | ((with_reducible refine wpList_storeVec h5 rfl (.tmp 8) (.tmp 22) rfl rfl rfl Try.sizePair ?_); intro w6 h6 g6 s6; have b6 := b5.trans (grown_below g6 (fun k hk => by cases hk; exact Nat.le_refl _) b5.size); have HO1 := hide (ownSws_below HO.out b6); have HP1 := hide (ownA_below HP.out b6); have HF1 := hide (blk_below HF.out b6); have HB1 := hide (HB.out.trans (b6.mono HB.out.size)); have HYB := hide (blk_below HY.out b6); have hz6 : w.heap.size + 1 ≤ w6.heap.size := Nat.le_trans HZ.out b6.size; have HZ1 := hide hz6; have c0 : w6.cell? ⟨gy, 0, none⟩ = some (.int .i64 (y1 : Int)) := blk_cell HYB.out 0 (by decide); have c1 : w6.cell? ⟨gy, 1, none⟩ = some (.int .i64 (y2 : Int)) := blk_cell HYB.out 1 (by decide); have c2 : w6.cell? ⟨wr.heap.size, 0, none⟩ = some (.int .i64 (x1 : Int)) := blk_cell h6 0 (by decide); have c3 : w6.cell? ⟨wr.heap.size, 1, none⟩ = some (.int .i64 (x2 : Int)) := blk_cell h6 1 (by decide); clear h5 b5 s5 h6 g6 s6 b6 q0 q1 hz6) | ((with_reducible refine wpList_allocSw 9 rfl rfl rfl ?_); intro w7 h7 b7 s7) | ((refine wpList_storeSw h7 s rfl (.tmp 9) (.tmp 31) rfl rfl HSV.out ?_); intro w8 h8 g8 s8; have b8 := b7.trans (grown_below g8 (fun k hk => by cases hk; exact Nat.le_refl _) b7.size); replace HO1 := hide (ownSws_below HO1.out b8); replace HP1 := hide (ownA_below HP1.out b8); replace HF1 := hide (blk_below HF1.out b8); replace HB1 := hide (HB1.out.trans (b8.mono HB1.out.size)); replace HYB := hide (blk_below HYB.out b8); replace HZ1 := hide (Nat.le_trans HZ1.out b8.size); clear h7 b7 s7 g8 s8 b8 c0 c1 c2 c3) | (with_reducible refine wpList_loadVec HF1.out 32 rfl rfl _ rfl rfl Try.underlying88 Try.sizeImg ?_) | (with_reducible refine wpList_loadSwC (swC_at h8) 33 rfl rfl _ rfl rfl ?_) | ((with_reducible refine (HHAS.out s _).mono ?_); rw [HH.out, HSB.out]; rintro e w9 ⟨rfl, b9⟩; replace HO1 := hide (ownSws_below HO1.out b9); replace HP1 := hide (ownA_below HP1.out b9); replace HF1 := hide (blk_below HF1.out b9); replace HB1 := hide (HB1.out.trans (b9.mono HB1.out.size)); replace HYB := hide (blk_below HYB.out b9); have h9 := swAt_below h8 b9; replace HZ1 := hide (Nat.le_trans HZ1.out b9.size); clear h8 b9))
            go_roundw
            case rel => exact ⟨q + 1, _, by omega, by go_num, rfl, by rw [HUQ.out, HN.out]; exact HO1.out, HP1.out, HF1.out, HYB.out, HZ1.out, HB1.out⟩
            case measure => simp [intOf]; omega
          | true =>
            have HSB := hide hsb
            have HN := hide (HYES.out hsb)
            clear hsb
            go_wp2_with (first | (with_reducible refine wpList_loadPair q0 q1 22 rfl rfl _ rfl rfl ?_) | (with_reducible refine wpList_allocVec 2 8 rfl rfl rfl Try.zeroPair ?_; intro w5 h5 b5 s5) | ((with_reducible refine wpList_storeVec h5 rfl (.tmp 8) (.tmp 22) rfl rfl rfl Try.sizePair ?_); intro w6 h6 g6 s6; have b6 := b5.trans (grown_below g6 (fun k hk => by cases hk; exact Nat.le_refl _) b5.size); have HO1 := hide (ownSws_below HO.out b6); have HP1 := hide (ownA_below HP.out b6); have HF1 := hide (blk_below HF.out b6); have HB1 := hide (HB.out.trans (b6.mono HB.out.size)); have HYB := hide (blk_below HY.out b6); have hz6 : w.heap.size + 1 ≤ w6.heap.size := Nat.le_trans HZ.out b6.size; have HZ1 := hide hz6; have c0 : w6.cell? ⟨gy, 0, none⟩ = some (.int .i64 (y1 : Int)) := blk_cell HYB.out 0 (by decide); have c1 : w6.cell? ⟨gy, 1, none⟩ = some (.int .i64 (y2 : Int)) := blk_cell HYB.out 1 (by decide); have c2 : w6.cell? ⟨wr.heap.size, 0, none⟩ = some (.int .i64 (x1 : Int)) := blk_cell h6 0 (by decide); have c3 : w6.cell? ⟨wr.heap.size, 1, none⟩ = some (.int .i64 (x2 : Int)) := blk_cell h6 1 (by decide); clear h5 b5 s5 h6 g6 s6 b6 q0 q1 hz6) | ((with_reducible refine wpList_allocSw 9 rfl rfl rfl ?_); intro w7 h7 b7 s7) | ((refine wpList_storeSw h7 s rfl (.tmp 9) (.tmp 31) rfl rfl HSV.out ?_); intro w8 h8 g8 s8; have b8 := b7.trans (grown_below g8 (fun k hk => by cases hk; exact Nat.le_refl _) b7.size); replace HO1 := hide (ownSws_below HO1.out b8); replace HP1 := hide (ownA_below HP1.out b8); replace HF1 := hide (blk_below HF1.out b8); replace HB1 := hide (HB1.out.trans (b8.mono HB1.out.size)); replace HYB := hide (blk_below HYB.out b8); replace HZ1 := hide (Nat.le_trans HZ1.out b8.size); clear h7 b7 s7 g8 s8 b8 c0 c1 c2 c3) | (with_reducible refine wpList_loadVec HF1.out 32 rfl rfl _ rfl rfl Try.underlying88 Try.sizeImg ?_) | (with_reducible refine wpList_loadSwC (swC_at h8) 33 rfl rfl _ rfl rfl ?_) | ((with_reducible refine (HHAS.out s _).mono ?_); rw [HH.out, HSB.out]; rintro e w9 ⟨rfl, b9⟩; replace HO1 := hide (ownSws_below HO1.out b9); replace HP1 := hide (ownA_below HP1.out b9); replace HF1 := hide (blk_below HF1.out b9); replace HB1 := hide (HB1.out.trans (b9.mono HB1.out.size)); replace HYB := hide (blk_below HYB.out b9); have h9 := swAt_below h8 b9; replace HZ1 := hide (Nat.le_trans HZ1.out b9.size); clear h8 b9) | (with_reducible refine wpList_loadSwC (swC_at h9) 36 rfl rfl _ rfl rfl ?_) | (refine wpList_buildOneA (swA s) _ 37 rfl rfl (.tmp 36) rfl rfl Try.underlying36 Try.infoSw (by decide) (by decide) rfl ?_) | (at_builtin; refine wpList_pushA HO1.out (swA s) _ rfl _ _ rfl Try.underlying36 Try.infoSw rfl (by decide) (by decide) rfl rfl rfl (swA_one s) (by have := HLEN.out; have := HLN.out; omega) HZ1.out ?_; intro g cap wa hown ba ga ata lta))
            go_roundw
            case rel =>
              refine ⟨q + 1, _, by omega, by go_num, rfl, ?_, ?_, ?_, ?_, ?_, ?_⟩
              · rw [HUQ.out, HN.out]
                unfold OwnSws
                rw [cellsS_snoc, List.length_append]
                exact hown
              · exact HP1.out.kept ga (ownA_types HP1.out HO1.out (by decide))
              · exact blk_grown HF1.out ga (by intro e; have := HO1.out.lt _ e; omega)
              · exact blk_grown HYB.out ga (own_not_blk HO1.out HYB.out (by decide))
              · exact Nat.le_trans HZ1.out ba.size
              · exact HB1.out.trans (ba.mono (by omega))
            case measure => simp [intOf]; omega
        · obtain rfl : q = 10 := by omega
          go_wp2
          go_roundw
          case rel => exact ⟨p + 1, _, by omega, by go_num, rfl, by rw [HUP.out]; exact HO.out, HP.out, HF.out, HZ.out, HB.out⟩
          case measure => simp [intOf]; omega
    · obtain rfl : p = 10 := by omega
      go_wp2
      go_ret
      exact ⟨_, rfl, ownSws_base HO.out (Nat.le_succ _), HB.out⟩
end Go.Proofs.Ytnhijmhambggbaa
