/-
  Texts of this claim, one behind the other: Sws, SrA, Srch, Pth.
-/
import Derived.Test.YtcliiefedmiokaaPackK
import Derived.Test.YtcliiefedmiokaaPackF
import Derived.Test.YtcliiefedmiokaaPackG
import Derived.Deep.MidRow
import Derived.WalkMore
import Derived.Deep.LoopGhost
/-
  switches of the program: all switches of an image, in order.
-/
namespace Go.Proofs.Ytcliiefedmiokaa
open Go.RowKit

def kp (p : Nat) : Nat := [1, 2, 3, 4, 7, 8, 9, 13, 14, 19].getD p 25
theorem pairs_len : (upP 25).length = 10 := by decide +kernel
theorem pairs_at : ∀ p, p < 10 → (upP 25)[p]? = some (kp p / 5, kp p % 5) := by decide +kernel
theorem kp_in : ∀ p, p < 10 → kp p < 25 ∧ kp p / 5 < kp p % 5 := by decide +kernel
theorem kp_next : ∀ p, p < 10 → kp p < kp (p + 1) ∧ kp (p + 1) ≤ 25 ∧ ∀ c, c < 25 → kp p < c → c < kp (p + 1) → ¬ c / 5 < c % 5 := by decide +kernel
theorem kp_zero : kp 0 = 1 := rfl
theorem kp_ten : kp 10 = 25 := rfl
theorem cellsP_at : ∀ (l : List (Nat × Nat)) (i a b : Nat), l[i]? = some (a, b) → (cellsP l)[i * 2]? = some (.int .i64 (a : Int)) ∧ (cellsP l)[i * 2 + 1]? = some (.int .i64 (b : Int))
  | [], i, a, b, h => by simp at h
  | p :: l, 0, a, b, h => by
    simp only [List.getElem?_cons_zero, Option.some.injEq] at h
    subst h
    exact ⟨rfl, rfl⟩
  | p :: l, i + 1, a, b, h => by
    have := cellsP_at l i a b (by simpa using h)
    have e : cellsP (p :: l) = [.int .i64 (p.1 : Int), .int .i64 (p.2 : Int)] ++ cellsP l := by simp [cellsP]
    rw [e]
    refine ⟨?_, ?_⟩
    · rw [List.getElem?_append_right (by simp; omega)]
      simpa [show (i + 1) * 2 - 2 = i * 2 by omega] using this.1
    · rw [List.getElem?_append_right (by simp; omega)]
      simpa [show (i + 1) * 2 + 1 - 2 = i * 2 + 1 by omega] using this.2
theorem swB_order {m : List (List Int)} {i : Nat} (h : ¬ (i / 125 < i / 25 % 5 ∧ i / 5 % 5 < i % 5)) : swB m (decS i) = false := by
  rw [Bool.eq_false_iff]
  intro e
  obtain ⟨a, b, c, d, e1, h1⟩ := swF_iff.1 e
  obtain ⟨h2, h3, -⟩ := four_iff.1 h1
  unfold decS at e1
  simp only [Sw.mk.injEq] at e1
  omega
theorem dec_pair (p q : Nat) (hq : q < 25) : decS (25 * p + q) = ⟨((p / 5 : Nat) : Int), ((p % 5 : Nat) : Int), ((q / 5 : Nat) : Int), ((q % 5 : Nat) : Int)⟩ := by
  unfold decS
  rw [show (25 * p + q) / 125 = p / 5 by omega, show (25 * p + q) / 25 % 5 = p % 5 by omega, show (25 * p + q) / 5 % 5 = q / 5 by omega, show (25 * p + q) % 5 = q % 5 by omega]
theorem upS_in (m : List (List Int)) (p : Nat) : upS m (25 * p + kp 0) = upS m (25 * p) :=
  upS_skip (by omega) fun i h1 h2 => swB_order (by rw [kp_zero] at h2; omega)
theorem upS_q (m : List (List Int)) (p q : Nat) (hq : q < 10) : upS m (25 * p + kp (q + 1)) = upS m (25 * p + kp q + 1) := by
  obtain ⟨h1, h2, h3⟩ := kp_next q hq
  refine upS_skip (by omega) fun i g1 g2 => swB_order ?_
  have := h3 (i - 25 * p) (by omega) (by omega) (by omega)
  omega
theorem upS_p (m : List (List Int)) (p : Nat) (hp : p < 10) : upS m (25 * kp (p + 1)) = upS m (25 * kp p + kp 10) := by
  obtain ⟨h1, h2, h3⟩ := kp_next p hp
  rw [kp_ten]
  refine upS_skip (by omega) fun i g1 g2 => swB_order ?_
  have := h3 (i / 25) (by omega) (by omega) (by omega)
  omega
theorem upS_first (m : List (List Int)) : upS m (25 * kp 0) = [] := by
  rw [upS_skip (k := 0) (by omega) fun i _ h2 => swB_order (by rw [kp_zero] at h2; omega)]; rfl
theorem own_not_blk {w : World} {b1 e1 n1 z1 g n : Nat} {T : TypeId} {F : Nat → Int} {v1 : Value} {xs : List Value} (h1 : w.ownsRow b1 e1 z1 v1 n1 xs) (h2 : Blk w g T n F) (hne : e1 ≠ T) : v1.ownBlock ≠ some g := by
  rcases h1.2 with ⟨rfl, _⟩ | ⟨g1, c1, cur1, rfl, _, hg1, _⟩
  · simp [Value.ownBlock]
  · intro e
    simp only [Value.ownBlock, Option.some.injEq] at e
    subst e
    unfold Blk at h2
    rw [hg1] at h2
    simp only [Option.some.injEq, Obj.cells.injEq] at h2
    exact hne h2.2.1
/-- Two integers in a row, loaded as an array. -/
theorem wpList_loadPair {ops : Array Oper} {rest : List Oper} {o : Oper} {a : Act} {Q : Exit → Act → World → Prop} {W : World} {g k p q : Nat} (h0 : W.cell? ⟨g, k, none⟩ = some (.int .i64 (p : Int))) (h1 : W.cell? ⟨g, k + 1, none⟩ = some (.int .i64 (q : Int)))
    (d : Tmp) (_hd : o.dst = some d) (hgd : o.guard = none) (x : Operand) (ho : o.op = .load 130 x) (hx : a.eval x = .pointer (some ⟨g, k, none⟩))
    (h : wpList Try.prog ops Q rest (a.put o.dst (.agg (vec 2 fun i => ((pickN p q i : Nat) : Int)))) W) : wpList Try.prog ops Q (o :: rest) a W := by
  refine wpList_plain hgd fun K hK => ?_
  have : (execOp a.eval o).run Try.prog W = .ok (.value (.agg (vec 2 fun i => ((pickN p q i : Nat) : Int)))) W := by
    unfold execOp
    simp only [ho, hx]
    go_simp
    rfl
  unfold Oper.wp
  rw [this]
  exact hK _ _ h
theorem Try.sizePair : (Try.prog.info? 130).map (·.size) = some 2 := by kernel_rfl
theorem Try.zeroPair (w : World) : (zeroValue 130).run Try.prog w = .ok (.agg (vec 2 fun _ => 0)) w := Try.zeroValue130 w
set_option maxRecDepth 100000 in
set_option maxHeartbeats 4000000 in
theorem switches_any (R C : Nat) (f : Nat → Nat → Int) (w : World) (hI : Img R C f) : Calls Try.prog 116 #[.agg (vec 25 (imgF R C f))] w (SwsRes (swsM (mkM R C f)) w) := by
  have HHAS := hide fun s w => hasSwitch_any (imgF R C f) s w
  have HH : Hid (∀ s, hasF (imgF R C f) s = swB (mkM R C f) s) := hide fun s => by rw [hasF_img hI, swB_mk hI]
  obtain ⟨m, hm⟩ : ∃ m, m = mkM R C f := ⟨_, rfl⟩
  obtain ⟨F, hF⟩ : ∃ F, F = imgF R C f := ⟨_, rfl⟩
  rw [← hm, ← hF] at HH; rw [← hF] at HHAS; rw [← hm, ← hF]
  clear hm hF hI
  go_enter Try.func116, Try.ntmps116
  go_wp2_with (first | (with_reducible refine wpList_boxVec 25 F 1 rfl rfl (.tmp 0) rfl rfl ?_; intro w1 h1 b1 s1) | (refine (pairsBelow_any _).mono ?_; rintro e w2 ⟨pv, rfl, hp, hb2⟩; have HP0 := hide (ownA_base hp (show w.heap.size + 1 ≤ w1.heap.size by omega)); have HF0 := hide (blk_below h1 hb2); have HB0 := hide (b1.trans (hb2.mono b1.size)); have HZ := hide (show w.heap.size + 1 ≤ w2.heap.size by have := hb2.size; omega); rw [pairs_len] at HP0; obtain ⟨gp, cp, rfl, -⟩ := ownA_some HP0.out (by decide); clear hp hb2 h1 b1 s1))
  go_loopw [3, 13] (fun u t w' => ∃ (p : Nat) (v : Value), p ≤ 10 ∧ t = .int .i64 p ∧ v = u ∧ OwnSws w' (w.heap.size + 1) v (upS m (25 * kp p)) ∧ w'.ownsRow (w.heap.size + 1) 130 2 (.slice (some ⟨gp, 0, none⟩) 10 cp) 10 (cellsP (upP 25)) ∧ Blk w' w.heap.size 78 25 F ∧ w.heap.size + 1 ≤ w'.heap.size ∧ Below w.heap.size w w') (fun _ t _ => 10 - (intOf t).toNat)
  case atStart => exact ⟨0, _, by omega, rfl, rfl, by rw [upS_first]; exact ownSws_nil _ _, HP0.out, HF0.out, HZ.out, HB0.out⟩
  case round =>
    clear HP0 HF0 HB0 HZ
    obtain ⟨p, v, hp, rfl, rfl, ho, hpr, hf, hz, hb⟩ := hrel
    have HO := hide ho; have HP := hide hpr; have HF := hide hf; have HZ := hide hz; have HB := hide hb
    clear ho hpr hf hz hb
    by_cases hlt : p < 10
    · have hpI : (p : Int) < 10 := by omega
      have HKP := hide (kp_in p hlt)
      have HPT := hide (cellsP_at _ _ _ _ (pairs_at p hlt))
      have HUP := hide (upS_p m p hlt)
      obtain ⟨A, hA⟩ : ∃ A, A = kp p := ⟨_, rfl⟩
      have HA := hide hA
      rw [← hA] at HO HKP HPT HUP
      clear hA
      obtain ⟨y1, hy1⟩ : ∃ y, y = A / 5 := ⟨_, rfl⟩
      obtain ⟨y2, hy2⟩ : ∃ y, y = A % 5 := ⟨_, rfl⟩
      have HY1 := hide hy1; have HY2 := hide hy2
      rw [← hy1, ← hy2] at HPT
      have q0 := HP.out.cellAt (p * 2) (by omega)
      have q1 := HP.out.cellAt (p * 2 + 1) (by omega)
      rw [HPT.out.1] at q0; rw [HPT.out.2] at q1
      rw [← upS_in m A] at HO
      clear hy1 hy2
      go_wp2_with (first | (with_reducible refine wpList_loadPair q0 q1 16 rfl rfl _ rfl rfl ?_) | (with_reducible refine wpList_allocVec 2 6 rfl rfl rfl Try.zeroPair ?_; intro w3 h3 b3 s3) | (with_reducible refine wpList_storeVec h3 rfl (.tmp 6) (.tmp 16) rfl rfl rfl Try.sizePair ?_; intro w4 h4 g4 s4))
      have b4 := b3.trans (grown_below g4 (fun k hk => by cases hk; exact Nat.le_refl _) b3.size)
      have HO1 := hide (ownSws_below HO.out b4); have HP1 := hide (ownA_below HP.out b4); have HF1 := hide (blk_below HF.out b4); have HB1 := hide (HB.out.trans (b4.mono HB.out.size)); have HY := hide h4
      have HZ1 := hide (show w.heap.size + 1 ≤ w4.heap.size by have := HZ.out; omega)
      obtain ⟨gy, hgy⟩ : ∃ gy, gy = wr.heap.size := ⟨_, rfl⟩
      rw [← hgy] at HY ⊢
      clear q0 q1 h3 b3 s3 h4 g4 s4 b4 HO HP HF HB HZ hgy
      go_loopw [3, 19] (fun u t w' => ∃ (q : Nat) (v : Value), q ≤ 10 ∧ t = .int .i64 q ∧ v = u ∧ OwnSws w' (w.heap.size + 1) v (upS m (25 * A + kp q)) ∧ w'.ownsRow (w.heap.size + 1) 130 2 (.slice (some ⟨gp, 0, none⟩) 10 cp) 10 (cellsP (upP 25)) ∧ Blk w' w.heap.size 78 25 F ∧ Blk w' gy 130 2 (fun i => ((pickN y1 y2 i : Nat) : Int)) ∧ w.heap.size + 1 ≤ w'.heap.size ∧ Below w.heap.size w w') (fun _ t _ => 10 - (intOf t).toNat)
      case atStart => exact ⟨0, _, by omega, rfl, rfl, HO1.out, HP1.out, HF1.out, HY.out, HZ1.out, HB1.out⟩
      case round =>
        clear HO1 HP1 HF1 HY HZ1 HB1
        obtain ⟨q, v, hq, rfl, rfl, ho, hpr, hf, hy, hz, hb⟩ := hrel
        have HO := hide ho; have HP := hide hpr; have HF := hide hf; have HY := hide hy; have HZ := hide hz; have HB := hide hb
        clear ho hpr hf hy hz hb
        by_cases hlq : q < 10
        · have hqI : (q : Int) < 10 := by omega
          have HKQ := hide (kp_in q hlq)
          have HPT2 := hide (cellsP_at _ _ _ _ (pairs_at q hlq))
          have HUQ := hide (upS_q m A q hlq)
          have HLEN := hide (upS_len m (25 * A + kp q))
          have HDEC := hide (dec_pair A (kp q) HKQ.out.1)
          have HYES := hide (fun h => upS_yes (m := m) (k := 25 * A + kp q) h)
          have HNO := hide (fun h => upS_no (m := m) (k := 25 * A + kp q) h)
          obtain ⟨B, hB⟩ : ∃ B, B = kp q := ⟨_, rfl⟩
          rw [← hB] at HO HKQ HPT2 HUQ HLEN HDEC HYES HNO
          clear hB
          obtain ⟨x1, hx1⟩ : ∃ y, y = B / 5 := ⟨_, rfl⟩
          obtain ⟨x2, hx2⟩ : ∃ y, y = B % 5 := ⟨_, rfl⟩
          rw [← hx1, ← hx2] at HPT2 HDEC
          rw [← HY1.out, ← HY2.out] at HDEC
          rw [HDEC.out] at HYES HNO
          obtain ⟨s, hs⟩ : ∃ s : Sw, s = ⟨y1, y2, x1, x2⟩ := ⟨_, rfl⟩
          have HSV := hide (show Value.agg #[.int .i64 (y1 : Int), .int .i64 (y2 : Int), .int .i64 (x1 : Int), .int .i64 (x2 : Int)] = swV s by rw [hs]; rfl)
          rw [← hs] at HYES HNO
          have q0 := HP.out.cellAt (q * 2) (by omega)
          have q1 := HP.out.cellAt (q * 2 + 1) (by omega)
          rw [HPT2.out.1] at q0; rw [HPT2.out.2] at q1
          have HLN : Hid (25 * A + B < 1000) := hide (by have := HKP.out.1; have := HKQ.out.1; omega)
          clear hx1 hx2 hs
          cases hsb : swB m s with
          | false =>
            have HSB := hide hsb
            have HN := hide (HNO.out hsb)
            clear hsb
            go_wp2_with (first | (with_reducible refine wpList_loadPair q0 q1 22 rfl rfl _ rfl rfl ?_) | (with_reducible refine wpList_allocVec 2 8 rfl rfl rfl Try.zeroPair ?_; intro w5 h5 b5 s5) | ((with_reducible refine wpList_storeVec h5 rfl (.tmp 8) (.tmp 22) rfl rfl rfl Try.sizePair ?_); intro w6 h6 g6 s6; have b6 := b5.trans (grown_below g6 (fun k hk => by cases hk; exact Nat.le_refl _) b5.size); have HO1 := hide (ownSws_below HO.out b6); have HP1 := hide (ownA_below HP.out b6); have HF1 := hide (blk_below HF.out b6); have HB1 := hide (HB.out.trans (b6.mono HB.out.size)); have HYB := hide (blk_below HY.out b6); have hz6 : w.heap.size + 1 ≤ w6.heap.size := Nat.le_trans HZ.out b6.size; have HZ1 := hide hz6; have c0 : w6.cell? ⟨gy, 0, none⟩ = some (.int .i64 (y1 : Int)) := blk_cell HYB.out 0 (by decide); have c1 : w6.cell? ⟨gy, 1, none⟩ = some (.int .i64 (y2 : Int)) := blk_cell HYB.out 1 (by decide); have c2 : w6.cell? ⟨wr.heap.size, 0, none⟩ = some (.int .i64 (x1 : Int)) := blk_cell h6 0 (by decide); have c3 : w6.cell? ⟨wr.heap.size, 1, none⟩ = some (.int .i64 (x2 : Int)) := blk_cell h6 1 (by decide); clear h5 b5 s5 h6 g6 s6 b6 q0 q1 hz6) | ((with_reducible refine wpList_allocSw 9 rfl rfl rfl ?_); intro w7 h7 b7 s7) | ((refine wpList_storeSw h7 s rfl (.tmp 9) (.tmp 31) rfl rfl HSV.out ?_); intro w8 h8 g8 s8; have b8 := b7.trans (grown_below g8 (fun k hk => by cases hk; exact Nat.le_refl _) b7.size); replace HO1 := hide (ownSws_below HO1.out b8); replace HP1 := hide (ownA_below HP1.out b8); replace HF1 := hide (blk_below HF1.out b8); replace HB1 := hide (HB1.out.trans (b8.mono HB1.out.size)); replace HYB := hide (blk_below HYB.out b8); replace HZ1 := hide (Nat.le_trans HZ1.out b8.size); clear h7 b7 s7 g8 s8 b8 c0 c1 c2 c3) | (with_reducible refine wpList_loadVec HF1.out 32 rfl rfl _ rfl rfl Try.underlying78 Try.sizeImg ?_) | (with_reducible refine wpList_loadSwC (swC_at h8) 33 rfl rfl _ rfl rfl ?_) | ((with_reducible refine (HHAS.out s _).mono ?_); rw [HH.out, HSB.out]; rintro e w9 ⟨rfl, b9⟩; replace HO1 := hide (ownSws_below HO1.out b9); replace HP1 := hide (ownA_below HP1.out b9); replace HF1 := hide (blk_below HF1.out b9); replace HB1 := hide (HB1.out.trans (b9.mono HB1.out.size)); replace HYB := hide (blk_below HYB.out b9); have h9 := swAt_below h8 b9; replace HZ1 := hide (Nat.le_trans HZ1.out b9.size); clear h8 b9))
            go_roundw
            case rel => exact ⟨q + 1, _, by omega, by go_num, rfl, by rw [HUQ.out, HN.out]; exact HO1.out, HP1.out, HF1.out, HYB.out, HZ1.out, HB1.out⟩
            case measure => simp [intOf]; omega
          | true =>
            have HSB := hide hsb
            have HN := hide (HYES.out hsb)
            clear hsb
            go_wp2_with (first | (with_reducible refine wpList_loadPair q0 q1 22 rfl rfl _ rfl rfl ?_) | (with_reducible refine wpList_allocVec 2 8 rfl rfl rfl Try.zeroPair ?_; intro w5 h5 b5 s5) | ((with_reducible refine wpList_storeVec h5 rfl (.tmp 8) (.tmp 22) rfl rfl rfl Try.sizePair ?_); intro w6 h6 g6 s6; have b6 := b5.trans (grown_below g6 (fun k hk => by cases hk; exact Nat.le_refl _) b5.size); have HO1 := hide (ownSws_below HO.out b6); have HP1 := hide (ownA_below HP.out b6); have HF1 := hide (blk_below HF.out b6); have HB1 := hide (HB.out.trans (b6.mono HB.out.size)); have HYB := hide (blk_below HY.out b6); have hz6 : w.heap.size + 1 ≤ w6.heap.size := Nat.le_trans HZ.out b6.size; have HZ1 := hide hz6; have c0 : w6.cell? ⟨gy, 0, none⟩ = some (.int .i64 (y1 : Int)) := blk_cell HYB.out 0 (by decide); have c1 : w6.cell? ⟨gy, 1, none⟩ = some (.int .i64 (y2 : Int)) := blk_cell HYB.out 1 (by decide); have c2 : w6.cell? ⟨wr.heap.size, 0, none⟩ = some (.int .i64 (x1 : Int)) := blk_cell h6 0 (by decide); have c3 : w6.cell? ⟨wr.heap.size, 1, none⟩ = some (.int .i64 (x2 : Int)) := blk_cell h6 1 (by decide); clear h5 b5 s5 h6 g6 s6 b6 q0 q1 hz6) | ((with_reducible refine wpList_allocSw 9 rfl rfl rfl ?_); intro w7 h7 b7 s7) | ((refine wpList_storeSw h7 s rfl (.tmp 9) (.tmp 31) rfl rfl HSV.out ?_); intro w8 h8 g8 s8; have b8 := b7.trans (grown_below g8 (fun k hk => by cases hk; exact Nat.le_refl _) b7.size); replace HO1 := hide (ownSws_below HO1.out b8); replace HP1 := hide (ownA_below HP1.out b8); replace HF1 := hide (blk_below HF1.out b8); replace HB1 := hide (HB1.out.trans (b8.mono HB1.out.size)); replace HYB := hide (blk_below HYB.out b8); replace HZ1 := hide (Nat.le_trans HZ1.out b8.size); clear h7 b7 s7 g8 s8 b8 c0 c1 c2 c3) | (with_reducible refine wpList_loadVec HF1.out 32 rfl rfl _ rfl rfl Try.underlying78 Try.sizeImg ?_) | (with_reducible refine wpList_loadSwC (swC_at h8) 33 rfl rfl _ rfl rfl ?_) | ((with_reducible refine (HHAS.out s _).mono ?_); rw [HH.out, HSB.out]; rintro e w9 ⟨rfl, b9⟩; replace HO1 := hide (ownSws_below HO1.out b9); replace HP1 := hide (ownA_below HP1.out b9); replace HF1 := hide (blk_below HF1.out b9); replace HB1 := hide (HB1.out.trans (b9.mono HB1.out.size)); replace HYB := hide (blk_below HYB.out b9); have h9 := swAt_below h8 b9; replace HZ1 := hide (Nat.le_trans HZ1.out b9.size); clear h8 b9) | (with_reducible refine wpList_loadSwC (swC_at h9) 36 rfl rfl _ rfl rfl ?_) | (refine wpList_buildOneA (swA s) _ 37 rfl rfl (.tmp 36) rfl rfl Try.underlying40 Try.infoSw (by decide) (by decide) rfl ?_) | (at_builtin; refine wpList_pushA HO1.out (swA s) _ rfl _ _ rfl Try.underlying40 Try.infoSw rfl (by decide) (by decide) rfl rfl rfl (swA_one s) (by have := HLEN.out; have := HLN.out; omega) HZ1.out ?_; intro g cap wa hown ba ga ata lta))
            go_roundw
            case rel =>
              refine ⟨q + 1, _, by omega, by go_num, rfl, ?_, ?_, ?_, ?_, ?_, ?_⟩
              · rw [HUQ.out, HN.out]
                unfold OwnSws
                rw [cellsS_snoc, List.length_append]
                exact hown
              · exact HP1.out.kept ga (ownA_types HP1.out HO1.out (by decide))
              · exact blk_grown HF1.out ga (by intro e; have := HO1.out.lt _ e; omega)
              · exact blk_grown HYB.out ga (own_not_blk HO1.out HYB.out (by decide))
              · exact Nat.le_trans HZ1.out ba.size
              · exact HB1.out.trans (ba.mono (by omega))
            case measure => simp [intOf]; omega
        · obtain rfl : q = 10 := by omega
          go_wp2
          go_roundw
          case rel => exact ⟨p + 1, _, by omega, by go_num, rfl, by rw [HUP.out]; exact HO.out, HP.out, HF.out, HZ.out, HB.out⟩
          case measure => simp [intOf]; omega
    · obtain rfl : p = 10 := by omega
      go_wp2
      go_ret
      exact ⟨_, rfl, ownSws_base HO.out (Nat.le_succ _), HB.out⟩
end Go.Proofs.Ytcliiefedmiokaa
/-
  What the search meets: images as keys, a queue of images, the map of the last switches.
-/
namespace Go.Proofs.Ytcliiefedmiokaa
open Go.RowKit
set_option maxRecDepth 100000

theorem vec_inj {n : Nat} {F G : Nat → Int} (h : vec n F = vec n G) : ∀ i, i < n → F i = G i := fun i hi => by
  have h1 := vec_at n F i hi
  rw [h, vec_at n G i hi] at h1
  simpa using h1.symm
/-- The cells of an image, by number. -/
def imgC (R C : Nat) (x : List (List Int)) : Nat → Int := imgF R C (cellM x)
theorem imgC_mk (R C : Nat) (f : Nat → Nat → Int) : imgC R C (mkM R C f) = imgF R C f := by
  funext i
  unfold imgC imgF
  by_cases h : i / 5 < R ∧ i % 5 < C
  · rw [if_pos h, if_pos h]; exact cell_mk R C f h.1 h.2
  · rw [if_neg h, if_neg h]
theorem imgC_wf {R C : Nat} {x : List (List Int)} (h : Node R C x) : WfI (imgC R C x) := by
  obtain ⟨f, rfl, hI⟩ := h
  rw [imgC_mk]; exact fun i => imgF_range hI i
theorem imgC_inj {R C : Nat} {x y : List (List Int)} (hx : Node R C x) (hy : Node R C y) (h : vec 25 (imgC R C x) = vec 25 (imgC R C y)) : x = y := by
  obtain ⟨f, rfl, hI⟩ := hx
  obtain ⟨g, rfl, -⟩ := hy
  have h5 := hI.r2; have h6 := hI.c2
  rw [imgC_mk, imgC_mk] at h
  exact mkM_congr fun y x hy hx => by
    have h1 := vec_inj h (5 * y + x) (by omega)
    rw [imgF_at R C f y x (by omega), imgF_at R C g y x (by omega), if_pos ⟨hy, hx⟩, if_pos ⟨hy, hx⟩] at h1
    exact h1
theorem imgC_flip {R C : Nat} {x : List (List Int)} {s : Sw} (w : World) (h : Node R C x) (hs : swB x s = true) :
    Calls Try.prog 79 #[.agg (vec 25 (imgC R C x)), swV s] w fun e w' => e = .returned (.agg (vec 25 (imgC R C (flipM x s)))) ∧ Below w.heap.size w w' := by
  obtain ⟨f, rfl, hI⟩ := h
  rw [swB_mk hI] at hs
  rw [flipM_mk hI, imgC_mk, imgC_mk]
  exact switched_img R C f s w hI hs
theorem imgC_switches {R C : Nat} {x : List (List Int)} (w : World) (h : Node R C x) : Calls Try.prog 116 #[.agg (vec 25 (imgC R C x))] w (SwsRes (swsM x) w) := by
  obtain ⟨f, rfl, hI⟩ := h
  rw [imgC_mk]; exact switches_any R C f w hI

/-- Whether two images are the same. -/
theorem img_key2 {F : Nat → Int} (h : WfI F) : ∃ L, Try.prog.keyLits (Try.prog.types.size + 1) 78 (vecL 25 F) = some L ∧ (Value.agg (vec 25 F)).formed Try.prog 78 = true ∧ keyOf Try.prog 78 (.agg (vec 25 F)) = some (.string (keyBytes L)) := by
  have hs : ∃ d, Try.prog.types.size + 1 = d + 3 := ⟨Try.prog.types.size - 2, by have : 3 ≤ Try.prog.types.size := of_decide_eq_true (by kernel_rfl); omega⟩
  obtain ⟨d, hd⟩ := hs
  obtain ⟨L, hL⟩ := imgLitM d F (wfI_lit h)
  have hf : (Value.agg (vec 25 F)).formed Try.prog 78 = true := by
    simp [Value.formed, Try.underlying78, Try.cellsImg, vec_size]
  have hc : (Value.agg (vec 25 F)).cells.toList = vecL 25 F := by simp [Value.cells, vec]
  refine ⟨L, by rw [hd]; exact hL, hf, ?_⟩
  unfold keyOf
  rw [Try.underlying78]
  simp only [Try.keyTyM, hf, Bool.and_self, if_true, hc, hd, hL, Option.map_some]
theorem run_eqImg {F G : Nat → Int} (hF : WfI F) (hG : WfI G) (b : Bool) (hb : b = true ↔ vec 25 F = vec 25 G) (w : World) : (binOp .eql 78 (.agg (vec 25 F)) (.agg (vec 25 G))).run Try.prog w = .ok (.bool b) w := by
  obtain ⟨la, ha, fa, ka⟩ := img_key2 hF
  obtain ⟨lb, hl, fb, kb⟩ := img_key2 hG
  have hm : Try.prog.types.size + 1 ≤ 10000 := of_decide_eq_true (by kernel_rfl)
  obtain ⟨r, hr, hiff⟩ := run_equalIn_deep (10000 - (Try.prog.types.size + 1)) (Try.prog.types.size + 1) 78 Try.keyTyM w _ _ (.agg (vec 25 F)) (.agg (vec 25 G)) la lb fa fb (by rw [show (Value.agg (vec 25 F)).cells.toList = vecL 25 F by simp [Value.cells, vec]]; exact ha) (by rw [show (Value.agg (vec 25 G)).cells.toList = vecL 25 G by simp [Value.cells, vec]]; exact hl)
  rw [show 10000 - (Try.prog.types.size + 1) + (Try.prog.types.size + 1) = 10000 by omega] at hr
  have he : r = b := by
    rw [Bool.eq_iff_iff, hiff, hb]
    constructor
    · intro e
      subst e
      have := Try.imgLaw.inj ka kb
      simpa using this
    · intro e
      have e2 : vecL 25 F = vecL 25 G := by simpa [vec] using e
      rw [e2, hl] at ha
      exact (Option.some.inj ha).symm
  rw [← he]
  simp only [binOp]
  simp [Op.equal, Op.maxDepth, hr]

/-- The cells of images, one behind the other. -/
def queL (R C : Nat) (l : List (List (List Int))) : List Value := l.flatMap fun x => vecL 25 (imgC R C x)
theorem queL_nil (R C : Nat) : queL R C [] = [] := rfl
theorem queL_cons (R C : Nat) (x : List (List Int)) (l : List (List (List Int))) : queL R C (x :: l) = vecL 25 (imgC R C x) ++ queL R C l := by simp [queL]
theorem queL_snoc (R C : Nat) (x : List (List Int)) (l : List (List (List Int))) : queL R C (l ++ [x]) = queL R C l ++ vecL 25 (imgC R C x) := by simp [queL]
theorem queL_tail (R C : Nat) (l : List (List (List Int))) {a : Nat} (h : a < l.length) : (queL R C (l.drop a)).drop 25 = queL R C (l.drop (a + 1)) := by
  rw [List.drop_eq_getElem_cons h, queL_cons, List.drop_append_of_le_length (by rw [vecL_len]; exact Nat.le_refl _), List.drop_of_length_le (by rw [vecL_len]; exact Nat.le_refl _), List.nil_append]
theorem queL_head {R C : Nat} {l : List (List (List Int))} {a : Nat} (h : a < l.length) : queL R C (l.drop a) = vecL 25 (imgC R C (l.getD a [])) ++ queL R C (l.drop (a + 1)) := by
  rw [List.drop_eq_getElem_cons h, queL_cons]
  simp [List.getD_eq_getElem?_getD, List.getElem?_eq_getElem h]
theorem ownQ_head {w : World} {base n : Nat} {v : Value} {F : Nat → Int} {ys : List Value} (h : OwnQ w base 78 25 v (n + 1) (vecL 25 F ++ ys)) :
    ∃ g o cap, v = .slice (some ⟨g, o, none⟩) (n + 1) cap ∧ n + 1 ≤ cap ∧ base ≤ g ∧ g < w.heap.size ∧ w.rangeAt g o (vecL 25 F) := by
  obtain ⟨g, o, cap, rfl, h1, -, h2, h3, h4⟩ := ownQ_slice h
  refine ⟨g, o, cap, rfl, h1, h2, h3, fun j u hj => ?_⟩
  have hj' : j < 25 := by have := (List.getElem?_eq_some_iff.1 hj).1; rwa [vecL_len] at this
  rw [h4 j (by omega), List.getElem?_append_left (by rw [vecL_len]; exact hj')]
  exact hj
/-- The last switch of a list. -/
def lastS (p : List Sw) : Sw := p.getLastD zeroSw
theorem lastS_snoc (p : List Sw) (s : Sw) : lastS (p ++ [s]) = s := by simp [lastS]
/-- The entries of the map. -/
def ksOf (R C : Nat) (L : List (List (List Int))) (W : List (List Sw)) : List ((Nat → Int) × Sw) := (List.range L.length).map fun i => (imgC R C (L.getD i []), lastS (W.getD i []))
theorem ksOf_len (R C : Nat) (L : List (List (List Int))) (W : List (List Sw)) : (ksOf R C L W).length = L.length := by simp [ksOf]
theorem ksOf_snoc {R C : Nat} {L : List (List (List Int))} {W : List (List Sw)} (hl : W.length = L.length) (x : List (List Int)) (p : List Sw) : ksOf R C (L ++ [x]) (W ++ [p]) = ksOf R C L W ++ [(imgC R C x, lastS p)] := by
  unfold ksOf
  rw [List.length_append, List.length_singleton, List.range_succ, List.map_append]
  have e1 := getD_snoc_eq W p []
  rw [hl] at e1
  rw [List.map_singleton, getD_snoc_eq, e1]
  congr 1
  refine List.map_congr_left fun i hi => ?_
  have hi := List.mem_range.1 hi
  rw [getD_snoc_lt _ _ _ hi, getD_snoc_lt _ _ _ (by rw [hl]; exact hi)]
theorem ksOf_mem {R C : Nat} {L : List (List (List Int))} {W : List (List Sw)} {p : (Nat → Int) × Sw} (h : p ∈ ksOf R C L W) : ∃ i, i < L.length ∧ p = (imgC R C (L.getD i []), lastS (W.getD i [])) := by
  unfold ksOf at h
  obtain ⟨i, hi, rfl⟩ := List.mem_map.1 h
  exact ⟨i, List.mem_range.1 hi, rfl⟩
theorem ksOf_at {R C : Nat} {L : List (List (List Int))} {W : List (List Sw)} {i : Nat} (h : i < L.length) : (imgC R C (L.getD i []), lastS (W.getD i [])) ∈ ksOf R C L W := List.mem_map.2 ⟨i, List.mem_range.2 h, rfl⟩
section
variable {R C : Nat} {m : List (List Int)} {L : List (List (List Int))} {W : List (List Sw)} {a K : Nat}
theorem ksOf_wf (hm : Node R C m) (h : Bfs m L W a K) : ∀ p ∈ ksOf R C L W, WfI p.1 := fun p hp => by
  obtain ⟨i, hi, rfl⟩ := ksOf_mem hp
  exact imgC_wf (bfs_node hm h hi)
theorem ksOf_in (hm : Node R C m) (h : Bfs m L W a K) {x : List (List Int)} (hx : Node R C x) : (∃ p ∈ ksOf R C L W, vec 25 p.1 = vec 25 (imgC R C x)) ↔ x ∈ L := by
  constructor
  · rintro ⟨p, hp, e⟩
    obtain ⟨i, hi, rfl⟩ := ksOf_mem hp
    rw [← imgC_inj (bfs_node hm h hi) hx e]
    exact getD_mem hi
  · intro hx
    obtain ⟨i, hi, rfl⟩ := mem_getD [] hx
    exact ⟨_, ksOf_at hi, rfl⟩
end
/-- The number of the switch before number k. -/
def befS (S : List Sw) : Nat → Nat
  | 0 => 0
  | k + 1 => numS (S.getD k zeroSw)
theorem sws_up (x : List (List Int)) : (swsM x).Pairwise fun s t => numS s < numS t := by
  unfold swsM upS
  rw [List.pairwise_map]
  exact (List.pairwise_lt_range.filter _).imp fun h => by rw [num_dec, num_dec]; omega
theorem sws_num {x : List (List Int)} {i j : Nat} (hij : i < j) (hj : j < (swsM x).length) : numS ((swsM x).getD i zeroSw) < numS ((swsM x).getD j zeroSw) := by
  have h := List.pairwise_iff_getElem.1 (sws_up x) i j (by omega) hj hij
  rw [List.getD_eq_getElem?_getD, List.getD_eq_getElem?_getD, List.getElem?_eq_getElem hj, List.getElem?_eq_getElem (show i < (swsM x).length by omega)]
  exact h
theorem befS_le {x : List (List Int)} {k : Nat} (hk : k < (swsM x).length) : befS (swsM x) k ≤ numS ((swsM x).getD k zeroSw) := by
  cases k with
  | zero => exact Nat.zero_le _
  | succ k => exact Nat.le_of_lt (sws_num (Nat.lt_succ_self k) hk)
theorem befS_all {R C : Nat} {x : List (List Int)} (hx : Node R C x) {k : Nat} (hk : k < (swsM x).length) : ∀ s, swB x s = true → numS s < numS ((swsM x).getD k zeroSw) → numS s ≤ befS (swsM x) k := fun s hs hn => by
  obtain ⟨i, hi, rfl⟩ := mem_getD zeroSw ((sws_mem hx).2 hs)
  have hik : i < k := by
    rcases Nat.lt_trichotomy i k with h | rfl | h
    · exact h
    · omega
    · have := sws_num h hi; omega
  obtain ⟨q, rfl⟩ : ∃ q, k = q + 1 := ⟨k - 1, by omega⟩
  show numS _ ≤ numS _
  by_cases e : i = q
  · subst e; exact Nat.le_refl _
  · exact Nat.le_of_lt (sws_num (show i < q by omega) (by omega))
theorem befS_end {R C : Nat} {x : List (List Int)} (hx : Node R C x) : befS (swsM x) (swsM x).length ≤ 625 ∧ ∀ s, swB x s = true → numS s ≤ befS (swsM x) (swsM x).length := by
  cases hl : (swsM x).length with
  | zero =>
    refine ⟨Nat.zero_le _, fun s hs => ?_⟩
    have := (sws_mem hx).2 hs
    rw [List.eq_nil_of_length_eq_zero hl] at this
    cases this
  | succ k =>
    have hm : (swsM x).getD k zeroSw ∈ swsM x := getD_mem (by omega)
    obtain ⟨i, hi, e⟩ := swB_num hx ((sws_mem hx).1 hm)
    refine ⟨by show numS _ ≤ 625; rw [e, num_dec]; omega, fun s hs => ?_⟩
    obtain ⟨j, hj, rfl⟩ := mem_getD zeroSw ((sws_mem hx).2 hs)
    show numS _ ≤ numS _
    by_cases e : j = k
    · subst e; exact Nat.le_refl _
    · exact Nat.le_of_lt (sws_num (show j < k by omega) (by omega))
theorem sws_at {R C : Nat} {x : List (List Int)} (hx : Node R C x) {k : Nat} (hk : k < (swsM x).length) : swB x ((swsM x).getD k zeroSw) = true := (sws_mem hx).1 (getD_mem hk)
end Go.Proofs.Ytcliiefedmiokaa
/-
  searched of the program: a search in breadth.
-/
namespace Go.Proofs.Ytcliiefedmiokaa
open Go.RowKit

/-- What stands through the search. -/
def SrSt (w : World) (R C : Nat) (t : List (List Int)) (L : List (List (List Int))) (W : List (List Sw)) (a n : Nat) (q : Value) (w' : World) : Prop :=
  OwnQ w' (w.heap.size + 3) 78 25 q n (queL R C (L.drop a)) ∧ ImgMap w' (w.heap.size + 2) (ksOf R C L W) ∧ Blk w' (w.heap.size + 1) 78 25 (imgC R C t) ∧ w.heap.size + 3 ≤ w'.heap.size ∧ Below w.heap.size w w'
theorem sr_below {w w1 w2 : World} {R C : Nat} {t : List (List Int)} {L : List (List (List Int))} {W : List (List Sw)} {a n : Nat} {q : Value} (h : SrSt w R C t L W a n q w1) (hb : Below w1.heap.size w1 w2) : SrSt w R C t L W a n q w2 :=
  ⟨ownQ_below h.1 hb, imgMap_below h.2.1 hb, blk_below h.2.2.1 hb, Nat.le_trans h.2.2.2.1 hb.size, h.2.2.2.2.trans (hb.mono h.2.2.2.2.size)⟩
/-- What the search answers. -/
def SrRes (R C : Nat) (m t : List (List Int)) (w : World) (e : Ending) (w' : World) : Prop :=
  e = .returned (.map (some (w.heap.size + 2))) ∧ ∃ L W a K, Bfs m L W a K ∧ t ∈ L ∧ ImgMap w' (w.heap.size + 2) (ksOf R C L W) ∧ Below w.heap.size w w' ∧ (t = m → a = L.length)
theorem Try.infoImg : (Try.prog.info? 78).map (fun i => (i.zero, i.size, i.bytes)) = some (some (.agg (vec 25 fun _ => 0)), 25, 200) := by kernel_rfl
def mapLen (w : World) (b : Nat) : Nat := match w.heap[b]? with | some (.map es _) => es.size | _ => 0
theorem mapLen_of {w : World} {b : Nat} {ks : List ((Nat → Int) × Sw)} (h : ImgMap w b ks) : mapLen w b = ks.length := by
  obtain ⟨es, c, hb, hk, -⟩ := h
  unfold mapLen
  rw [hb]
  have := congrArg List.length hk
  simpa using this
def lenV : Value → Nat
  | .slice _ n _ => n
  | _ => 0
theorem ownQ_lenV {w : World} {base e z n : Nat} {v : Value} {xs : List Value} (h : OwnQ w base e z v n xs) : lenV v = n := by
  obtain ⟨-, g, o, cap, cur, rfl, -⟩ := h; rfl
theorem wpList_tail {P : Program} {ops : Array Oper} {rest : List Oper} {o : Oper} {a : Act} {Q : Exit → Act → World → Prop} {W : World} {base E T n z : Nat} {v : Value} {xs : List Value} (h : OwnQ W base E z v (n + 1) xs)
    (d : Tmp) (_hd : o.dst = some d) (hgd : o.guard = none) (x : Operand) (ho : o.op = .slice T x (some (.const (.int .i64 1))) none none) (hx : a.eval x = v) (hu : P.underlying T = some (.slice E)) (hs : ∀ w, (sizeOf E).run P w = .ok z w)
    (hK : ∀ v', OwnQ W base E z v' n (xs.drop z) → wpList P ops Q rest (a.put o.dst v') W) : wpList P ops Q (o :: rest) a W := by
  refine wpList_plain hgd fun K hk => ?_
  obtain ⟨h0, g, q, cap, cur, rfl, hr⟩ := id h
  unfold Oper.wp
  rw [exec_tail ho rfl hx hr.2.2.1 hu hs]
  exact hk _ _ (hK _ (ownQ_tail h))
theorem wpList_loadQ {P : Program} {ops : Array Oper} {rest : List Oper} {o : Oper} {a : Act} {Q : Exit → Act → World → Prop} {W : World} {g k : Nat} {T : TypeId} {d : TypeDesc} {F : Nat → Int} (h : W.rangeAt g k (vecL 25 F))
    (t : Tmp) (_hd : o.dst = some t) (hgd : o.guard = none) (x : Operand) (ho : o.op = .load T x) (hx : a.eval x = .pointer (some ⟨g, k, none⟩)) (hu : P.underlying T = some d) (hr : d.isRow = true) (hi : (P.info? T).map (·.size) = some 25)
    (hK : wpList P ops Q rest (a.put o.dst (.agg (vec 25 F))) W) : wpList P ops Q (o :: rest) a W :=
  wpList_load_mid hgd T x ho g k hx (vecL 25 F) d h hu hr (by rw [hi, vecL_len]) hK
theorem exec_loadQ {P : Program} {ρ : Operand → Value} {o : Oper} {W : World} {g k : Nat} {T : TypeId} {d : TypeDesc} {F : Nat → Int} {x : Operand} (h : W.rangeAt g k (vecL 25 F)) (ho : o.op = .load T x) (hx : ρ x = .pointer (some ⟨g, k, none⟩)) (hu : P.underlying T = some d) (hr : d.isRow = true) (hi : (P.info? T).map (·.size) = some 25) :
    (execOp ρ o).run P W = .ok (.value (.agg (vec 25 F))) W := by
  unfold execOp
  simp only [ho, hx]
  rw [Sem.run_bind, run_loadAt_mid W g k T (vecL 25 F) d h hu hr (by rw [hi, vecL_len])]
  rfl
theorem sws_cell {w : World} {lo g n c : Nat} {l : List Sw} (h : OwnSws w lo (.slice (some ⟨g, 0, none⟩) n c) l) (k : Nat) (hk : k < l.length) : SwC w g (k * 4) (l.getD k zeroSw) := by
  have := ownSws_cells h k hk
  rwa [show l.getD k zeroSw = l[k] by simp [List.getD_eq_getElem?_getD, List.getElem?_eq_getElem hk]]
theorem exec_allocV {P : Program} {ρ : Operand → Value} {o : Oper} {w : World} {T : TypeId} (n : Nat) (ho : o.op = .alloc T) (hz : ∀ w, (zeroValue T).run P w = .ok (.agg (vec n fun _ => 0)) w) :
    (execOp ρ o).run P w = .ok (.value (.pointer (some ⟨w.heap.size, 0, none⟩))) (w.alloc (.cells (vec n fun _ => 0) T)) := by
  unfold execOp
  simp only [ho, Instr.alloc, Sem.run_bind, hz, Result.andThen_ok]
  rfl
theorem exec_storeV {P : Program} {W : World} {g n : Nat} {T T' : TypeId} {F0 : Nat → Int} (F : Nat → Int) (hb : Blk W g T n F0) (hi : (P.info? T').map (·.size) = some n) :
    ∃ w', (∀ (ρ : Operand → Value) (o : Oper) (x y : Operand), o.op = .store T' x y → ρ x = .pointer (some ⟨g, 0, none⟩) → ρ y = .agg (vec n F) → (execOp ρ o).run P W = .ok .skip w') ∧ Blk w' g T n F ∧ W.grownBy w' (some g) ∧ w'.heap.size = W.heap.size := by
  refine ⟨_, fun ρ o x y ho hx hy => ?_, setRow_heap W g _ (vec n F) T (0, 0) hb, ⟨rfl, rfl, rfl, by simp, fun k hk hr => setRow_other W g k _ (fun e => hr (by rw [e]))⟩, by simp⟩
  unfold execOp
  simp only [ho, hx, hy, Instr.storeAt, Instr.sureAddr, Sem.run_bind, Sem.run_pure, Result.andThen_ok, run_storeVar_row W g T T' (vec n F0) (vec n F) hb (by rw [hi, vec_size]) (by simp [vec_size]) (vec_one n F)]
/-- A new image, in a block from B on. -/
def newB (B : Nat) : FactP := fun u w2 => ∃ G, u = .pointer (some ⟨G, 0, none⟩) ∧ B ≤ G ∧ Blk w2 G 78 25 fun _ => 0
theorem stable_newB (B : Nat) : StableP (newB B) := fun _ _ _ hb h => ⟨h.choose, h.choose_spec.1, h.choose_spec.2.1, blk_below h.choose_spec.2.2 hb⟩
theorem range_below {w w' : World} {g k : Nat} {cs : List Value} (h : w.rangeAt g k cs) (hb : Below w.heap.size w w') (hg : g < w.heap.size) : w'.rangeAt g k cs := fun j v hj => below_cell hb hg (h j v hj)
theorem wpList_lookupYes {ops : Array Oper} {rest : List Oper} {o : Oper} {a : Act} {Q : Exit → Act → World → Prop} {W : World} {b : Nat} {ks : List ((Nat → Int) × Sw)} {F : Nat → Int} (h : ImgMap W b ks) (hw : ∀ p ∈ ks, WfI p.1) (hF : WfI F) (hex : ∃ p ∈ ks, vec 25 p.1 = vec 25 F)
    (d : Tmp) (_hd : o.dst = some d) (hgd : o.guard = none) (m x : Operand) (ho : o.op = .lookup 82 m x true) (hm : a.eval m = .map (some b)) (hx : a.eval x = .agg (vec 25 F))
    (hK : ∀ s : Sw, wpList Try.prog ops Q rest (a.put o.dst (.tuple #[swV s, .bool true])) W) : wpList Try.prog ops Q (o :: rest) a W :=
  wpList_lookupIM h hw hF d _hd hgd m x true ho hm hx fun s fd hc => by
    rcases hc with ⟨rfl, -⟩ | ⟨rfl, -, hn⟩
    · exact hK s
    · obtain ⟨p, hp, e⟩ := hex; exact absurd e (hn p hp)
theorem wpList_lookupNo {ops : Array Oper} {rest : List Oper} {o : Oper} {a : Act} {Q : Exit → Act → World → Prop} {W : World} {b : Nat} {ks : List ((Nat → Int) × Sw)} {F : Nat → Int} (h : ImgMap W b ks) (hw : ∀ p ∈ ks, WfI p.1) (hF : WfI F) (hne : ∀ p ∈ ks, vec 25 p.1 ≠ vec 25 F)
    (d : Tmp) (_hd : o.dst = some d) (hgd : o.guard = none) (m x : Operand) (ho : o.op = .lookup 82 m x true) (hm : a.eval m = .map (some b)) (hx : a.eval x = .agg (vec 25 F))
    (hK : wpList Try.prog ops Q rest (a.put o.dst (.tuple #[swV zeroSw, .bool false])) W) : wpList Try.prog ops Q (o :: rest) a W :=
  wpList_lookupIM h hw hF d _hd hgd m x true ho hm hx fun s fd hc => by
    rcases hc with ⟨rfl, p, hp, e, -⟩ | ⟨rfl, rfl, -⟩
    · exact absurd e (hne p hp)
    · exact hK
theorem zImg_cells : (Value.agg (vec 25 fun _ => 0)).cells.size = 25 := vec_size _ _
theorem start_facts (w : World) (F G : Nat → Int) : Blk (((w.alloc (.cells (vec 25 F) 78)).alloc (.cells (vec 25 G) 78)).alloc (.map #[] 0)) w.heap.size 78 25 F ∧
    Blk (((w.alloc (.cells (vec 25 F) 78)).alloc (.cells (vec 25 G) 78)).alloc (.map #[] 0)) (w.heap.size + 1) 78 25 G ∧
    ImgMap (((w.alloc (.cells (vec 25 F) 78)).alloc (.cells (vec 25 G) 78)).alloc (.map #[] 0)) (w.heap.size + 1 + 1) [] ∧
    Below w.heap.size w (((w.alloc (.cells (vec 25 F) 78)).alloc (.cells (vec 25 G) 78)).alloc (.map #[] 0)) ∧
    (((w.alloc (.cells (vec 25 F) 78)).alloc (.cells (vec 25 G) 78)).alloc (.map #[] 0)).heap.size = w.heap.size + 3 := by
  obtain ⟨w1, h1⟩ : ∃ w1, w1 = w.alloc (.cells (vec 25 F) 78) := ⟨_, rfl⟩
  have a1 : Below w.heap.size w w1 := by rw [h1]; exact (Below.refl _ _).alloc (Nat.le_refl _) _
  have b1 : Blk w1 w.heap.size 78 25 F := by rw [h1]; exact heap_alloc_new w _
  have s1 : w1.heap.size = w.heap.size + 1 := by rw [h1]; simp
  rw [← h1]
  clear h1
  obtain ⟨w2, h2⟩ : ∃ w2, w2 = w1.alloc (.cells (vec 25 G) 78) := ⟨_, rfl⟩
  have a2 : Below w1.heap.size w1 w2 := by rw [h2]; exact (Below.refl _ _).alloc (Nat.le_refl _) _
  have b2 : Blk w2 w1.heap.size 78 25 G := by rw [h2]; exact heap_alloc_new w1 _
  have s2 : w2.heap.size = w1.heap.size + 1 := by rw [h2]; simp
  rw [← h2]
  clear h2
  have a3 := (Below.refl w2.heap.size w2).alloc (Nat.le_refl _) (.map #[] 0)
  have m3 := imgMap_made w2
  rw [s1] at b2
  rw [s2, s1] at m3
  exact ⟨blk_below (blk_below b1 a2) a3, blk_below b2 a3, m3, a1.trans ((a2.mono a1.size).trans (a3.mono (Nat.le_trans a1.size a2.size))), by simp; omega⟩
set_option maxRecDepth 100000 in
set_option maxHeartbeats 4000000 in
theorem searched_any (R C : Nat) (m t : List (List Int)) (q0 : List Sw) (w : World) (hm : Node R C m) (ht : Node R C t) (hR : R ≤ 4) (hC : C ≤ 4) (hq : goM m q0 = some t) :
    Calls Try.prog 75 #[.agg (vec 25 (imgC R C m)), .agg (vec 25 (imgC R C t))] w (SrRes R C m t w) := by
  have HM := hide hm; have HT := hide ht; have HQ := hide hq
  have HWM := hide (imgC_wf hm)
  have HSIZE := hide (fun L W a K (h : Bfs m L W a K) => bfs_size hm hR hC h)
  have HALL := hide (fun L W K (h : Bfs m L W L.length K) => bfs_all h q0 hq)
  clear hm ht hR hC hq
  go_enter Try.func75, Try.ntmps75
  have hmm := @run_makeMap Try.prog
  obtain ⟨hp, ht, hmp, hb3, hs3⟩ := start_facts w (imgC R C m) (imgC R C t)
  obtain ⟨w4, hup, m4, g4, s4⟩ := run_updateIM hmp (fun p h => by cases h) HWM.out (fun p h => by cases h) zeroSw
  rw [show swV zeroSw = .agg #[.int .i64 0, .int .i64 0, .int .i64 0, .int .i64 0] from rfl] at hup
  have hp4 := blk_grown hp g4 (by intro e; have := Option.some.inj e; omega)
  have hz4 : w4.heap.size = w.heap.size + 3 := by omega
  have HG := hide (blk_grown ht g4 (by intro e; have := Option.some.inj e; omega)); have HM4 := hide m4
  have HB4 := hide (hb3.trans (grown_below g4 (fun k hk => by cases hk; omega) (Nat.le_trans hb3.size (Nat.le_refl _))))
  clear ht hb3 hs3 hmp g4 s4 m4
  go_wp2_with fail
  go_step3
  go_wp2_with (with_reducible refine wpList_loadVec hp 13 rfl rfl _ rfl rfl Try.underlying78 Try.sizeImg ?_)
  go_step3
  go_wp2_with (first | (with_reducible refine wpList_loadVec hp4 16 rfl rfl _ rfl rfl Try.underlying78 Try.sizeImg ?_) | (with_reducible refine wpList_buildOneA (vec 25 (imgC R C m)) (.agg (vec 25 fun _ => 0)) 17 rfl rfl (.tmp 16) rfl rfl Try.underlying127 Try.infoImg (by decide) (by decide) (vec_size _ _) ?_))
  have al := (Below.refl w4.heap.size w4).alloc (Nat.le_refl _) (.cells (vec 25 (imgC R C m)) 78)
  have HSR : Hid (SrSt w R C t [m] [[]] 0 1 (.slice (some ⟨w.heap.size + 3, 0, none⟩) 1 1) (w4.alloc (.cells (vec 25 (imgC R C m)) 78))) := hide ⟨by
      rw [List.drop_zero, queL_cons, queL_nil, List.append_nil]
      refine ⟨by rw [vecL_len], w.heap.size + 3, 0, 1, vec 25 (imgC R C m), rfl, Nat.le_refl _, by rw [← hz4]; exact heap_alloc_new w4 _, Nat.le_refl _, by decide, by rw [vec_size]; decide, fun j hj => ?_⟩
      rw [Nat.zero_add]; simp [vec], imgMap_below HM4.out al, blk_below HG.out al, by simp; omega, HB4.out.trans (al.mono HB4.out.size)⟩
  have HBF := hide (bfs_start m)
  clear al hp hp4 hup hmm HG HM4 HB4 hz4
  go_loopg [6] 65536 (fun g q w' => ∃ L W a, a + g = 65536 ∧ Bfs m L W a 0 ∧ SrSt w R C t L W a (L.length - a) q w')
  case atStart => exact ⟨[m], [[]], 0, rfl, HBF.out, HSR.out⟩
  case round =>
    clear HSR HBF
    obtain ⟨L, W, a, hag, hbf, hsr⟩ := hrel
    have HBF := hide hbf; have HSR := hide hsr
    have hL := HSIZE.out L W a 0 hbf
    obtain ⟨gq, oq, cq, rfl, hq1, hq2, hq3, -⟩ := ownQ_slice hsr.1
    have ha := hbf.le
    by_cases hlt : a < L.length
    · obtain ⟨g, rfl⟩ : ∃ g, gk = g + 1 := ⟨gk - 1, by omega⟩
      obtain ⟨n, hn⟩ : ∃ n, L.length - a = n + 1 := ⟨L.length - a - 1, by omega⟩
      have HN := hide hn
      rw [hn] at hsr ⊢
      have hq := hsr.1
      rw [queL_head hlt] at hq
      obtain ⟨gq', oq', cq', e, hq4, -, -, hra⟩ := ownQ_head hq
      cases e
      have hx := bfs_node HM.out hbf hlt
      obtain ⟨x, hxx⟩ : ∃ x, x = L.getD a [] := ⟨_, rfl⟩
      have HXX := hide hxx
      rw [← hxx] at hra hx
      have HX := hide hx
      have hnI : (0 : Int) < (n : Int) + 1 := by omega
      clear hbf hsr hq hxx hx hn
      go_wp2_with (first | (with_reducible refine wpList_loadQ hra 25 rfl rfl (.tmp 24) rfl rfl Try.underlying78 rfl Try.sizeImg ?_) | ((with_reducible refine (imgC_switches _ HX.out).mono ?_); rintro e w6 ⟨sv, rfl, hsv, hb6⟩; obtain ⟨asl, cs, rfl⟩ := ownA_slice hsv))
      have HSV := hide hsv; have HSR6 := hide (sr_below HSR.out hb6)
      have hlo : w.heap.size + 3 ≤ wr.heap.size := HSR.out.2.2.2.1
      obtain ⟨lo, hlo2⟩ : ∃ lo, lo = wr.heap.size := ⟨_, rfl⟩
      rw [← hlo2] at HSV hlo
      rw [HN.out] at HSR6
      have HEND := hide (befS_end HX.out)
      obtain ⟨S, hS⟩ : ∃ S, S = swsM x := ⟨_, rfl⟩
      have HS := hide hS
      rw [← hS] at HSV HEND ⊢
      obtain ⟨N, hNS⟩ : ∃ N, N = S.length := ⟨_, rfl⟩
      have HNS := hide hNS
      have hSL : N ≤ 625 := by rw [hNS, hS]; exact upS_len x 625
      rw [← hNS] at HEND ⊢
      clear hsv hb6 hlo2 HSR hra hq1 hq2 hq3 hq4 hS hNS
      go_loopg [6, 28] N (fun g q i w' => ∃ L W k, k + g = N ∧ i = .int .i64 k ∧ Bfs m L W a (befS S k) ∧ a < L.length ∧ x = L.getD a [] ∧ SrSt w R C t L W a (L.length - a) q w' ∧ OwnSws w' lo (.slice asl N cs) S)
      case atStart => exact ⟨L, W, 0, Nat.zero_add _, rfl, HBF.out, hlt, HXX.out, by rw [HN.out]; exact HSR6.out, by rw [HNS.out]; exact HSV.out⟩
      case round =>
        clear HSR6 HSV HBF HXX hlt HN hnI
        obtain ⟨L1, W1, k, hkg, rfl, hbf, hlt, hxx, hsr, hsv⟩ := hrel
        have HBF := hide hbf; have HXX := hide hxx; have HLT := hide hlt
        have hL1 := HSIZE.out L1 W1 a _ hbf
        obtain ⟨gq, oq, cq, rfl, hq1, hq2, hq3, -⟩ := ownQ_slice hsr.1
        cases gk with
        | zero =>
          obtain rfl : k = N := by omega
          have HNX := hide (bfs_next hbf hlt HEND.out.1 (by rw [← hxx]; exact HEND.out.2))
          obtain ⟨n1, hn1⟩ : ∃ n1, L1.length - a = n1 + 1 := ⟨L1.length - a - 1, by omega⟩
          have HTL := hide (queL_tail R C L1 hlt)
          have HR := hide hsr.2
          have hq := hsr.1
          have HN1 : Hid (L1.length - (a + 1) = n1) := hide (by omega)
          rw [hn1] at hq ⊢
          clear hbf hxx hsr hsv hn1
          go_wp2_with ((with_reducible refine wpList_tail hq 22 rfl rfl (.tmp 21) rfl rfl Try.underlying127 (fun w => rfl) ?_); intro v' hv')
          have HV := hide hv'
          clear hv' hq
          go_roundg g
          case measure => exact Nat.lt_succ_self g
          case rel => exact ⟨L1, W1, a + 1, by omega, HNX.out, by rw [HN1.out, ← HTL.out]; exact HV.out, HR.out⟩
        | succ g2 =>
          have hk : k < N := by omega
          have hkI : (k : Int) < N := by omega
          have hkS : k < S.length := by rw [← HNS.out]; exact hk
          obtain ⟨gs, cs2, e, -⟩ := ownA_some hsv (by rw [← HNS.out]; omega)
          cases e
          have hsc := sws_cell hsv k hkS
          have HSV := hide hsv; have HSR := hide hsr
          have HLE := hide (befS_le (x := x) (k := k) (by rw [← HS.out]; exact hkS))
          have HALLS := hide (befS_all HX.out (k := k) (by rw [← HS.out]; exact hkS))
          have HSB := hide (sws_at HX.out (k := k) (by rw [← HS.out]; exact hkS))
          have HNEXT : Hid (befS S (k + 1) = numS (S.getD k zeroSw)) := hide rfl
          rw [← HS.out] at HLE HALLS HSB
          obtain ⟨s, hs⟩ : ∃ s, s = S.getD k zeroSw := ⟨_, rfl⟩
          rw [← hs] at hsc HLE HALLS HSB HNEXT
          obtain ⟨n1, hn1⟩ : ∃ n1, L1.length - a = n1 + 1 := ⟨L1.length - a - 1, by omega⟩
          have HN1 := hide hn1
          have HNQ : Hid (n1 + 1 < 4000000) := hide (by omega)
          rw [hn1] at HSR ⊢
          clear hsv hsr hbf hxx hs hkS hn1 hq1 hq2 hq3
          go_wp2_with (first | (with_reducible refine wpList_loadSwC hsc 31 rfl rfl _ rfl rfl ?_) | ((with_reducible refine wpList_allocSw 8 rfl rfl rfl ?_); intro w7 h7 b7 s7) | ((refine wpList_storeSw h7 s rfl (.tmp 8) (.tmp 31) rfl rfl rfl ?_); intro w8 h8 g8 s8))
          have b8 := b7.trans (grown_below g8 (fun k hk => by cases hk; exact Nat.le_refl _) b7.size)
          have E1 := hide (sr_below HSR.out b8); have E2 := hide (ownSws_below HSV.out b8); have E3 := hide h8
          have hgs : w.heap.size + 3 ≤ wr.heap.size := HSR.out.2.2.2.1
          have hz8 : wr.heap.size + 1 ≤ w8.heap.size := by omega
          obtain ⟨gw, hgw⟩ : ∃ gw, gw = wr.heap.size := ⟨_, rfl⟩
          rw [← hgw] at E3 hgs hz8 ⊢
          have hq := E1.out.1
          rw [queL_head HLT.out, ← HXX.out] at hq
          obtain ⟨gq', oq', cq', e, -, -, hgq, hra⟩ := ownQ_head hq
          cases e
          have HRA := hide hra; have HGQ := hide hgq
          have hn1I : (0 : Int) < (n1 : Int) + 1 := by omega
          clear h7 b7 s7 h8 g8 s8 b8 hsc HSR HSV hgw hq hra hgq
          obtain ⟨fs, hfs⟩ : ∃ fs : List FactP, fs = [isV (.slice (some ⟨gq, oq, none⟩) (n1 + 1) cq), isV (.pointer (some ⟨gq, oq, none⟩)), isV (.agg (vec 25 (imgC R C x))), isV (swV s), isV (.agg (vec 25 (imgC R C (flipM x s)))), newB w8.heap.size] := ⟨_, rfl⟩
          have hst : ∀ f ∈ fs, StableP f := by
            rw [hfs]; intro f hf
            simp only [List.mem_cons, List.not_mem_nil, or_false] at hf
            rcases hf with rfl | rfl | rfl | rfl | rfl | rfl <;> first | exact stable_v _ | exact stable_newB _
          subst hfs
          refine wp_region_tail (S := fun w2 => Below w8.heap.size w8 w2) [isV (.slice (some ⟨gq, oq, none⟩) (n1 + 1) cq), isV (.pointer (some ⟨gq, oq, none⟩)), isV (.agg (vec 25 (imgC R C x))), isV (swV s), isV (.agg (vec 25 (imgC R C (flipM x s)))), newB w8.heap.size] [(6, .slice (some ⟨gq, oq, none⟩) (n1 + 1) cq), (8, .pointer (some ⟨gw, 0, none⟩))] _ _ 6 (by kernel_rfl) rfl rfl (by kernel_rfl) (by kernel_rfl) rfl (by kernel_rfl) ?base (below_drew (Below.refl _ _)) ?ob rfl ?fin
          case base =>
            intro t v ht
            simp only [List.lookup_cons, List.lookup_nil] at ht
            repeat' split at ht
            all_goals first | (cases ht; done) | (obtain rfl := Option.some.inj ht; rename_i hh; obtain rfl := eq_of_beq hh; rfl)
          case ob =>
            exact ⟨obt_move (.slice (some ⟨gq, oq, none⟩) (n1 + 1) cq) rfl rfl rfl (srt_b 6 rfl),
              obt_two (.pointer (some ⟨gq, oq, none⟩)) rfl rfl (srt_j 0 rfl (by kernel_rfl) rfl) (srt_c (v := .int .i64 0)) (fun ρ w2 hS hx hy => by go_simp),
              obt_one (.agg (vec 25 (imgC R C x))) rfl rfl (srt_j 1 rfl (by kernel_rfl) rfl) (fun ρ w2 hS hx => exec_loadQ (range_below HRA.out hS HGQ.out) rfl hx Try.underlying78 rfl Try.sizeImg),
              obt_one (swV s) rfl rfl (srt_b 8 rfl) (fun ρ w2 hS hx => exec_loadSw rfl hx (swAt_below E3.out hS)),
              obt_call hst [.agg (vec 25 (imgC R C x)), swV s] rfl Try.func79 (by kernel_rfl) (by kernel_rfl) rfl ⟨(srt_j 2 rfl (by kernel_rfl) rfl), (srt_j 3 rfl (by kernel_rfl) rfl), trivial⟩ (fun w2 hS => (imgC_flip w2 HX.out HSB.out).mono fun e w3 hh => ⟨_, hh.1, hS.trans (hh.2.mono hS.size), hh.2, rfl⟩),
              obt_make hst rfl (fun a w2 hS hs => ⟨_, _, exec_allocV 25 rfl Try.zeroImg, hS.trans (((Below.refl _ _).alloc (Nat.le_refl _) _).mono hS.size), (Below.refl _ _).alloc (Nat.le_refl _) _, w2.heap.size, rfl, hS.size, heap_alloc_new w2 _⟩),
              trivial⟩
          case fin =>
            intro a' w' h1 h2 h3 hS h4 K hK
            have ha := frame_ov rfl h1 h2 h3 [(32, .slice (some ⟨gq, oq, none⟩) (n1 + 1) cq), (33, .pointer (some ⟨gq, oq, none⟩)), (34, .agg (vec 25 (imgC R C x))), (35, swV s), (36, .agg (vec 25 (imgC R C (flipM x s)))), (9, a'.tmps.getD 9 undef)] (by kernel_rfl) ⟨h4 0 32 rfl (by decide), h4 1 33 rfl (by decide), h4 2 34 rfl (by decide), h4 3 35 rfl (by decide), h4 4 36 rfl (by decide), rfl, trivial⟩
            dsimp only [ov, List.lookup, Nat.reduceBEq, Nat.reduceAdd] at ha
            have v36 : a'.tmps.getD 36 undef = .agg (vec 25 (imgC R C (flipM x s))) := h4 4 36 rfl (by decide)
            obtain ⟨gn, hv9, hgn, hbn⟩ := h4 5 9 rfl (by decide)
            have HV9 := hide hv9
            obtain ⟨w9, hrun, E4, g9, s9⟩ := exec_storeV (P := Try.prog) (T' := 78) (imgC R C (flipM x s)) hbn Try.sizeImg
            refine run_skip (hrun a'.eval _ (.tmp 9) (.tmp 36) rfl hv9 v36) (hK undef _ ?_)
            show Exit.then _ _ Exit.normal a' _
            have b9 := hS.trans (grown_below g9 (fun k hk => by cases hk; exact hgn) hS.size)
            have F1 := hide (sr_below E1.out b9); have F2 := hide (ownSws_below E2.out b9); have F3 := hide (swAt_below E3.out b9); have F4 := hide E4; have F5 : Hid (w.heap.size + 3 ≤ gn) := hide (by omega)
            clear hbn hgn E4 g9 s9 b9 hrun v36 hv9
            rw [ha]
            rw [HV9.out]
            clear ha h1 h2 h3 h4 hst hK
            clear HV9 E1 E2 E3 HRA HGQ hS hz8
            have HNY := hide (node_flip HX.out s)
            have HWY := hide (imgC_wf HNY.out)
            have HWF := hide (ksOf_wf HM.out HBF.out)
            have HIN := hide (ksOf_in HM.out HBF.out HNY.out)
            have F6 : Hid (ImgMap w9 (w.heap.size + 1 + 1) (ksOf R C L1 W1)) := hide F1.out.2.1
            by_cases hy : flipM x s ∈ L1
            · have HEX := hide (HIN.out.2 hy)
              have HKN := hide (bfs_known HM.out HBF.out HLT.out (by rw [← HXX.out]; exact HSB.out) HLE.out (by rw [← HXX.out]; exact HALLS.out) (by rw [← HXX.out]; exact hy))
              clear hy
              go_wp2_with (first | (with_reducible refine wpList_loadVec F4.out 39 rfl rfl _ rfl rfl Try.underlying78 Try.sizeImg ?_) | ((with_reducible refine wpList_lookupYes F6.out HWF.out HWY.out HEX.out 40 rfl rfl (.tmp 38) (.tmp 39) rfl rfl rfl ?_); intro s9) | ((with_reducible refine wpList_allocSw 10 rfl rfl rfl ?_); intro wa ha ba sa) | ((refine wpList_storeSw ha s9 rfl (.tmp 10) (.tmp 41) rfl rfl rfl ?_); intro wb hb gb sb))
              have bb := ba.trans (grown_below gb (fun k hk => by cases hk; exact Nat.le_refl _) ba.size)
              have G1 := hide (sr_below F1.out bb); have G2 := hide (ownSws_below F2.out bb)
              clear ha ba sa hb gb sb bb
              go_roundg g2
              case measure => exact Nat.lt_succ_self g2
              case rel => exact ⟨L1, W1, k + 1, by omega, by go_num, by rw [HNEXT.out]; exact HKN.out, HLT.out, HXX.out, by rw [HN1.out]; exact G1.out, G2.out⟩
            · have HNE := hide (fun p hp e => hy (HIN.out.1 ⟨p, hp, e⟩))
              have HNW := hide (bfs_new HM.out HBF.out HLT.out (by rw [← HXX.out]; exact HSB.out) HLE.out (by rw [← HXX.out]; exact HALLS.out) (by rw [← HXX.out]; exact hy))
              rw [← HXX.out] at HNW
              have HKS := hide (ksOf_snoc (R := R) (C := C) HBF.out.len (flipM x s) (W1.getD a [] ++ [s]))
              rw [lastS_snoc] at HKS
              have HGN : Hid (gn ≠ w.heap.size + 1 + 1) := hide (by have := F5.out; omega)
              have HEQ := fun (b : Bool) (hb : b = true ↔ flipM x s = t) => run_eqImg HWY.out (imgC_wf HT.out) b (hb.trans ⟨fun e => by rw [e], fun e => imgC_inj HNY.out HT.out e⟩)
              obtain ⟨y, hyy⟩ : ∃ y, y = flipM x s := ⟨_, rfl⟩
              rw [← hyy] at F4 HWY HNE HNW HKS HEQ ⊢
              have HY := hide hyy
              have HNM := hide (show y ∉ L1 from by rw [hyy]; exact hy)
              clear hy hyy HIN
              have WALKTO : True := trivial
              by_cases hyt : y = t
              · have heq := HEQ true ⟨fun _ => hyt, fun _ => rfl⟩
                have HYT := hide hyt
                clear hyt HEQ
                go_wp2_with (first | (with_reducible refine wpList_loadVec F4.out 39 rfl rfl _ rfl rfl Try.underlying78 Try.sizeImg ?_) | ((with_reducible refine wpList_lookupNo F6.out HWF.out HWY.out HNE.out 40 rfl rfl (.tmp 38) (.tmp 39) rfl rfl rfl ?_)) | ((with_reducible refine wpList_allocSw 10 rfl rfl rfl ?_); intro wa ha ba sa) | ((refine wpList_storeSw ha zeroSw rfl (.tmp 10) (.tmp 41) rfl rfl rfl ?_); intro wb hb gb sb; have bb := ba.trans (grown_below gb (fun k hk => by cases hk; exact Nat.le_refl _) ba.size); have G1 := hide (sr_below F1.out bb); have G3 := hide (swAt_below F3.out bb); have G4 := hide (blk_below F4.out bb); have G6 := hide (imgMap_below F6.out bb); have G2 := hide (ownSws_below F2.out bb); clear ha ba sa hb gb sb bb) | (with_reducible refine wpList_loadVec G4.out 45 rfl rfl _ rfl rfl Try.underlying78 Try.sizeImg ?_) | (with_reducible refine wpList_loadSw G3.out 46 rfl rfl _ rfl rfl ?_) | ((with_reducible refine wpList_updateIM G6.out HWF.out HWY.out HNE.out s rfl (.tmp 44) (.tmp 45) (.tmp 46) (.inl rfl) rfl rfl rfl ?_); intro w12 m12 g12 s12; have K4 := hide (blk_grown G4.out g12 (by intro e; exact HGN.out (Option.some.inj e).symm)); have K2 := hide (blk_grown G1.out.2.2.1 g12 (by intro e; have := Option.some.inj e; omega)); have K6 := hide m12; have KB := hide (G1.out.2.2.2.2.trans (grown_below g12 (fun k hk => by have := Option.some.inj hk; omega) G1.out.2.2.2.2.size)); clear m12 g12 s12) | (with_reducible refine wpList_loadVec K4.out 47 rfl rfl _ rfl rfl Try.underlying78 Try.sizeImg ?_) | (with_reducible refine wpList_loadVec K2.out 48 rfl rfl _ rfl rfl Try.underlying78 Try.sizeImg ?_))
                rw [Exit.noGoto_ret]
                go_ret
                exact ⟨rfl, L1 ++ [y], W1 ++ [W1.getD a [] ++ [s]], a, numS s, HNW.out, by rw [HYT.out]; simp, by rw [HKS.out]; exact K6.out, KB.out, fun e => absurd (show t ∈ L1 by rw [e]; exact bfs_head HBF.out) (fun h => HNM.out (by rw [HYT.out]; exact h))⟩
              · have heq := HEQ false ⟨fun h => (by cases h), fun h => absurd h hyt⟩
                clear hyt HEQ
                go_wp2_with (first | (with_reducible refine wpList_loadVec F4.out 39 rfl rfl _ rfl rfl Try.underlying78 Try.sizeImg ?_) | ((with_reducible refine wpList_lookupNo F6.out HWF.out HWY.out HNE.out 40 rfl rfl (.tmp 38) (.tmp 39) rfl rfl rfl ?_)) | ((with_reducible refine wpList_allocSw 10 rfl rfl rfl ?_); intro wa ha ba sa) | ((refine wpList_storeSw ha zeroSw rfl (.tmp 10) (.tmp 41) rfl rfl rfl ?_); intro wb hb gb sb; have bb := ba.trans (grown_below gb (fun k hk => by cases hk; exact Nat.le_refl _) ba.size); have G1 := hide (sr_below F1.out bb); have G3 := hide (swAt_below F3.out bb); have G4 := hide (blk_below F4.out bb); have G6 := hide (imgMap_below F6.out bb); have G2 := hide (ownSws_below F2.out bb); clear ha ba sa hb gb sb bb) | (with_reducible refine wpList_loadVec G4.out 45 rfl rfl _ rfl rfl Try.underlying78 Try.sizeImg ?_) | (with_reducible refine wpList_loadSw G3.out 46 rfl rfl _ rfl rfl ?_) | ((with_reducible refine wpList_updateIM G6.out HWF.out HWY.out HNE.out s rfl (.tmp 44) (.tmp 45) (.tmp 46) (.inl rfl) rfl rfl rfl ?_); intro w12 m12 g12 s12; have K4 := hide (blk_grown G4.out g12 (by intro e; exact HGN.out (Option.some.inj e).symm)); have K2 := hide (blk_grown G1.out.2.2.1 g12 (by intro e; have := Option.some.inj e; omega)); have K6 := hide m12; have KB := hide (G1.out.2.2.2.2.trans (grown_below g12 (fun k hk => by have := Option.some.inj hk; omega) G1.out.2.2.2.2.size)); have KQ := hide (ownQ_grown G1.out.1 g12 (fun k hk e => by have h1 := (ownQ_lt G1.out.1 k hk).1; have h2 := Option.some.inj e; omega)); have KS := hide (show OwnSws w12 lo _ S from G2.out.kept g12 (.inr (own_not_map G2.out G6.out))); have KZ := hide (show w.heap.size + 3 ≤ w12.heap.size by have := G1.out.2.2.2.1; omega); clear m12 g12 s12) | (with_reducible refine wpList_loadVec K4.out 47 rfl rfl _ rfl rfl Try.underlying78 Try.sizeImg ?_) | (with_reducible refine wpList_loadVec K2.out 48 rfl rfl _ rfl rfl Try.underlying78 Try.sizeImg ?_) | (with_reducible refine wpList_loadVec K4.out 51 rfl rfl _ rfl rfl Try.underlying78 Try.sizeImg ?_) | (with_reducible refine wpList_buildOneA (vec 25 (imgC R C y)) (.agg (vec 25 fun _ => 0)) 52 rfl rfl (.tmp 51) rfl rfl Try.underlying127 Try.infoImg (by decide) (by decide) (vec_size _ _) ?_) | ((with_reducible refine wpList_pushQ KQ.out (vec 25 (imgC R C y)) (.agg (vec 25 fun _ => 0)) rfl (.tmp 50) (.tmp 52) rfl Try.underlying127 Try.infoImg zImg_cells (by decide) (by decide) rfl rfl (vec_size _ _) (vec_one _ _) HNQ.out KZ.out ?_); intro v14 w14 q14 b14 g14))
                have M1 := hide (imgMap_heap K6.out (b14.block (w.heap.size + 1 + 1) (by omega)))
                have M2 : Hid (Blk w14 (w.heap.size + 1) 78 25 (imgC R C t)) := hide (by have := K2.out; unfold Blk at this ⊢; rw [b14.block (w.heap.size + 1) (by omega)]; exact this)
                have M3 := hide (KB.out.trans (b14.mono (by omega)))
                have M4 := hide (show OwnSws w14 lo _ S from KS.out.kept g14 (.inr fun e => ownQ_not_row KQ.out KS.out (by decide) gq rfl e))
                have M5 := hide q14
                have M6 : Hid (w.heap.size + 3 ≤ w14.heap.size) := hide (Nat.le_trans KZ.out b14.size)
                clear q14 b14 g14
                go_roundg g2
                case measure => exact Nat.lt_succ_self g2
                case rel =>
                  have hlt := HLT.out
                  have hn1 := HN1.out
                  refine ⟨L1 ++ [y], W1 ++ [W1.getD a [] ++ [s]], k + 1, by omega, by go_num, by rw [HNEXT.out]; exact HNW.out, by simp; omega, by rw [getD_snoc_lt _ _ _ hlt]; exact HXX.out, ⟨?_, by rw [HKS.out]; exact M1.out, M2.out, M6.out, M3.out⟩, M4.out⟩
                  rw [show (L1 ++ [y]).length - a = n1 + 1 + 1 by simp; omega, List.drop_append_of_le_length (by omega), queL_snoc]
                  exact M5.out
    · obtain rfl : a = L.length := by omega
      have HIM := hide hsr.2.1; have HBW := hide hsr.2.2.2.2
      have HZ : L.length - L.length = 0 := Nat.sub_self _
      rw [HZ]
      clear hsr hbf hq1 hq2 hq3 HZ HSR
      go_wp2
      try rw [Exit.noGoto_ret]
      go_ret
      exact ⟨rfl, L, W, L.length, 0, HBF.out, HALL.out L W 0 HBF.out, HIM.out, HBW.out, fun _ => rfl⟩
end Go.Proofs.Ytcliiefedmiokaa
/-
  pathTo of the program: from an image back to the first one, along the last switches.
-/
namespace Go.Proofs.Ytcliiefedmiokaa
open Go.RowKit
set_option maxRecDepth 100000

theorem Try.cellsSw : Try.prog.cellsOf 45 = 4 := by kernel_rfl
theorem Try.keyTySw : Try.prog.keyType 45 = true := by kernel_rfl
def Sw.wf (s : Sw) : Prop := (Lit.int .i64 s.y1).wf = true ∧ (Lit.int .i64 s.y2).wf = true ∧ (Lit.int .i64 s.x1).wf = true ∧ (Lit.int .i64 s.x2).wf = true
theorem intLitsM_mk (d : Nat) (x : Int) (h : (Lit.int .i64 x).wf = true) : Try.prog.keyLits (d + 1) 3 [.int .i64 x] = some [.int .i64 x] := by
  unfold Program.keyLits
  rw [Try.underlying3]
  simp only
  rw [if_pos ⟨trivial, h⟩]
theorem swLits_mk (d : Nat) (s : Sw) (h : s.wf) : Try.prog.keyLits (d + 2) 45 (swA s).toList = some [.int .i64 s.y1, .int .i64 s.y2, .int .i64 s.x1, .int .i64 s.x2] := by
  obtain ⟨h1, h2, h3, h4⟩ := h
  unfold Program.keyLits
  rw [Try.underlying45]
  simp only [swA]
  refine (if_pos ⟨by rw [Try.cellsSw]; rfl, by decide +kernel⟩).trans ?_
  simp only [Try.cellsI, List.mapM_cons, List.mapM_nil, List.drop_zero, List.take_succ_cons, List.take_zero, List.drop_succ_cons, bind, Option.bind, pure, Option.map, intLitsM_mk d _ h1, intLitsM_mk d _ h2, intLitsM_mk d _ h3, intLitsM_mk d _ h4]
  rfl
theorem run_neqSw {s u : Sw} (hs : s.wf) (hu : u.wf) (b : Bool) (hb : b = true ↔ s ≠ u) (w : World) : (binOp .neq 45 (swV s) (swV u)).run Try.prog w = .ok (.bool b) w := by
  have hm : Try.prog.types.size + 1 ≤ 10000 := of_decide_eq_true (by kernel_rfl)
  have hf : ∀ s : Sw, (swV s).formed Try.prog 45 = true := fun s => by simp [swV, swA, Value.formed, Try.underlying45, Try.cellsSw]
  obtain ⟨r, hr, hiff⟩ := run_equalIn_deep (10000 - (Try.prog.types.size + 1)) (Try.prog.types.size + 1) 45 Try.keyTySw w 2 2 (swV s) (swV u) _ _ (hf s) (hf u) (swLits_mk 0 s hs) (swLits_mk 0 u hu)
  rw [show 10000 - (Try.prog.types.size + 1) + (Try.prog.types.size + 1) = 10000 by omega] at hr
  have he : b = !r := by
    rw [Bool.eq_iff_iff, hb]
    have : r = true ↔ s = u := hiff.trans ⟨fun e => by obtain ⟨a1, a2, a3, a4⟩ := s; obtain ⟨b1, b2, b3, b4⟩ := u; simpa using e, fun e => by rw [e]⟩
    cases r <;> simp_all
  rw [he]
  unfold swV at hr ⊢
  simp only [binOp]
  simp [Op.equal, Op.maxDepth, hr]
theorem small_wf : ∀ n : Nat, n < 625 → (Lit.int .i64 (n : Int)).wf = true := by decide +kernel
theorem dec_wf {i : Nat} (h : i < 625) : (decS i).wf := by
  unfold decS Sw.wf
  exact ⟨small_wf _ (by omega), small_wf _ (by omega), small_wf _ (by omega), small_wf _ (by omega)⟩
theorem zero_wf : zeroSw.wf := ⟨rfl, rfl, rfl, rfl⟩
theorem swB_wf {R C : Nat} {x : List (List Int)} (hx : Node R C x) {s : Sw} (h : swB x s = true) : s.wf ∧ s ≠ zeroSw := by
  obtain ⟨i, hi, rfl⟩ := swB_num hx h
  refine ⟨dec_wf hi, fun e => ?_⟩
  rw [e] at h
  obtain ⟨f, rfl, hI⟩ := hx
  rw [swB_mk hI] at h
  obtain ⟨a, b, c, d, e1, h1⟩ := swF_iff.1 h
  obtain ⟨h2, -⟩ := four_iff.1 h1
  unfold zeroSw at e1
  simp only [Sw.mk.injEq] at e1
  omega
theorem tree_len {m : List (List Int)} {L : List (List (List Int))} {W : List (List Sw)} {a K : Nat} (h : Bfs m L W a K) : ∀ n i, i ≤ n → i < L.length → (W.getD i []).length ≤ i := by
  intro n
  induction n with
  | zero =>
    intro i hi hl
    rcases h.tree i hl with ⟨e, -⟩ | ⟨j, s, hj, -⟩
    · rw [e]; exact Nat.zero_le _
    · omega
  | succ n ih =>
    intro i hi hl
    rcases h.tree i hl with ⟨e, -⟩ | ⟨j, s, hj, e, -⟩
    · rw [e]; exact Nat.zero_le _
    · have := ih j (by omega) (by omega)
      rw [e, List.length_append, List.length_singleton]; omega
/-- The way of an image, and the one before it. -/
theorem tree_back {R C : Nat} {m : List (List Int)} {L : List (List (List Int))} {W : List (List Sw)} {a K : Nat} (hm : Node R C m) (h : Bfs m L W a K) {i : Nat} (hi : i < L.length) {n : Nat} (hn : (W.getD i []).length = n + 1) :
    ∃ j s, j < L.length ∧ W.getD i [] = W.getD j [] ++ [s] ∧ (W.getD j []).length = n ∧ swB (L.getD i []) s = true ∧ flipM (L.getD i []) s = L.getD j [] := by
  rcases h.tree i hi with ⟨e, -⟩ | ⟨j, s, hj, e1, e2, e3⟩
  · rw [e] at hn; simp at hn
  · have hj' : j < L.length := by omega
    have hN := bfs_node hm h hj'
    refine ⟨j, s, hj', e1, ?_, ?_, ?_⟩
    · rw [e1, List.length_append, List.length_singleton] at hn; omega
    · rw [e3]; exact swB_back hN e2
    · rw [e3]; exact flip_back hN s
theorem wpList_lookupAt {R C : Nat} {m : List (List Int)} {L : List (List (List Int))} {V : List (List Sw)} {k K i : Nat} {ops : Array Oper} {rest : List Oper} {o : Oper} {a : Act} {Q : Exit → Act → World → Prop} {W : World} {b : Nat} (hm : Node R C m) (hb : Bfs m L V k K) (h : ImgMap W b (ksOf R C L V)) (hi : i < L.length)
    (d : Tmp) (_hd : o.dst = some d) (hgd : o.guard = none) (y x : Operand) (ho : o.op = .lookup 82 y x false) (hy : a.eval y = .map (some b)) (hx : a.eval x = .agg (vec 25 (imgC R C (L.getD i []))))
    (hK : wpList Try.prog ops Q rest (a.put o.dst (swV (lastS (V.getD i [])))) W) : wpList Try.prog ops Q (o :: rest) a W :=
  wpList_lookupIM h (ksOf_wf hm hb) (imgC_wf (bfs_node hm hb hi)) d _hd hgd y x false ho hy hx fun s fd hc => by
    rcases hc with ⟨-, p, hp, e, rfl⟩ | ⟨-, -, hn⟩
    · obtain ⟨j, hj, rfl⟩ := ksOf_mem hp
      obtain rfl : j = i := bfs_inj hm hb hj hi (imgC_inj (bfs_node hm hb hj) (bfs_node hm hb hi) e)
      exact hK
    · exact absurd rfl (hn _ (ksOf_at hi))
end Go.Proofs.Ytcliiefedmiokaa
