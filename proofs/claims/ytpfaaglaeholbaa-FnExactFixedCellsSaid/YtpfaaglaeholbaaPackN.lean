/-
  Texts of this claim, one behind the other: IntSSS, FixSp, LawsFC.
-/
import Derived.Test.YtpfaaglaeholbaaPackB
import Derived.Test.YtpfaaglaeholbaaPackM
import Derived.Test.YtpfaaglaeholbaaPackC
import Derived.Test.YtpfaaglaeholbaaPackD
/-
  Lists of images: read, marked and held.
-/
namespace Go.Proofs.Ytpfaaglaeholbaa
open Go.RowKit

def In3F (w : World) (v : Value) (n : Nat) (F : Nat → List (List Int)) : Prop :=
  ∃ a c, v = .slice a n c ∧ n ≤ maxLen ∧ (n = 0 ∨ ∃ g o, a = some ⟨g, o, none⟩ ∧ g < w.heap.size ∧ ∀ i, i < n → ∃ u, w.cell? ⟨g, o + i, none⟩ = some u ∧ InMat w u (F i))
theorem in3_below {w w' : World} {v : Value} {n : Nat} {F : Nat → List (List Int)} (h : In3F w v n F) (hb : Below w.heap.size w w') : In3F w' v n F := by
  obtain ⟨a, c, hv, hm, hp⟩ := h
  refine ⟨a, c, hv, hm, ?_⟩
  rcases hp with h0 | ⟨g, o, ha, hg, hc⟩
  · exact .inl h0
  · refine .inr ⟨g, o, ha, Nat.lt_of_lt_of_le hg hb.size, fun i hi => ?_⟩
    obtain ⟨u, hu, hr⟩ := hc i hi
    exact ⟨u, below_cell hb hg hu, inMat_below hr hb⟩
/-- A list of images of the call's own, read only. -/
def OwnU (w : World) (lo hi : Nat) (v : Value) (n : Nat) (F : Nat → List (List Int)) : Prop :=
  ∃ us : List Value, w.ownsRow lo 23 1 v n us ∧ (∀ k, v.ownBlock = some k → k < hi) ∧ ∀ i, i < n → OwnMat w lo hi (us.getD i undef) (F i)
theorem ownU_below {w w' : World} {lo hi : Nat} {v : Value} {n : Nat} {F : Nat → List (List Int)} (h : OwnU w lo hi v n F) (hb : Below w.heap.size w w') : OwnU w' lo hi v n F := by
  obtain ⟨us, h1, h2, h3⟩ := h
  exact ⟨us, own_below h1 hb, h2, fun i hi => ownMat_below (h3 i hi) hb⟩
theorem ownU_within {w w' : World} {lo hi lo' hi' : Nat} {v : Value} {n : Nat} {F : Nat → List (List Int)} (h : OwnU w lo hi v n F) (hw : Within lo' hi' w w') (ha : hi ≤ lo' ∨ hi' ≤ lo) : OwnU w' lo hi v n F := by
  obtain ⟨us, h1, h2, h3⟩ := h
  exact ⟨us, own_within h1 hw fun k hk => by have h4 := h2 k hk; have h5 := (h1.lt k hk).1; omega, h2, fun i hi => ownMat_within (h3 i hi) hw ha⟩
theorem in3_ownU {w : World} {lo hi : Nat} {v : Value} {n : Nat} {F : Nat → List (List Int)} (h : OwnU w lo hi v n F) : In3F w v n F := by
  obtain ⟨us, h1, -, h3⟩ := h
  by_cases h0 : n = 0
  · subst h0
    obtain ⟨a, c, rfl⟩ := own_slice h1
    exact ⟨a, c, rfl, Nat.zero_le _, .inl rfl⟩
  · obtain ⟨g, cap, rfl, -, hg, hc, hm, -, -⟩ := own_some h1 (by omega)
    exact ⟨_, _, rfl, by omega, .inr ⟨g, 0, rfl, hg, fun i hi => ⟨_, by rw [Nat.zero_add]; exact cell_held h1 hi, inMat_own (h3 i hi)⟩⟩⟩
theorem ownU_imgs {w : World} {lo : Nat} {v : Value} {ms : List (List (List Int))} (h : OwnImgs w lo v ms) : OwnU w lo w.heap.size v ms.length fun i => ms.getD i [] := by
  obtain ⟨us, h1, h2⟩ := h
  refine ⟨us, h1, fun k hk => (h1.lt k hk).2, fun i hi => ?_⟩
  obtain ⟨hi', g1, g2⟩ := h2 i hi
  show OwnMat w lo w.heap.size _ (ms.getD i [])
  rw [List.getD_eq_getElem?_getD (l := ms), List.getElem?_eq_getElem hi, Option.getD_some]
  exact ownMat_mono g2 (Nat.le_refl _) g1
/-- A list of images of the call's own, apart from one another. -/
def Own3F (w : World) (lo hi : Nat) (v : Value) (n : Nat) (F : Nat → List (List Int)) : Prop :=
  ∃ (us : List Value) (a b : Nat → Nat), w.ownsRow lo 23 1 v n us ∧ (∀ k, v.ownBlock = some k → k < hi) ∧ (∀ i, i < n → OwnMat w (a i) (b i) (us.getD i undef) (F i) ∧ lo ≤ a i ∧ b i ≤ hi ∧ ∀ k, v.ownBlock = some k → k < a i ∨ b i ≤ k) ∧ ∀ i j, i < j → j < n → b i ≤ a j
theorem own3_u {w : World} {lo hi : Nat} {v : Value} {n : Nat} {F : Nat → List (List Int)} (h : Own3F w lo hi v n F) : OwnU w lo hi v n F := by
  obtain ⟨us, a, b, h1, h2, h3, -⟩ := h
  exact ⟨us, h1, h2, fun i hi => ownMat_mono (h3 i hi).1 (h3 i hi).2.1 (h3 i hi).2.2.1⟩
theorem in3_own {w : World} {lo hi : Nat} {v : Value} {n : Nat} {F : Nat → List (List Int)} (h : Own3F w lo hi v n F) : In3F w v n F := in3_ownU (own3_u h)
theorem own3_below {w w' : World} {lo hi : Nat} {v : Value} {n : Nat} {F : Nat → List (List Int)} (h : Own3F w lo hi v n F) (hb : Below w.heap.size w w') : Own3F w' lo hi v n F := by
  obtain ⟨us, a, b, h1, h2, h3, h4⟩ := h
  exact ⟨us, a, b, own_below h1 hb, h2, fun i hi => ⟨ownMat_below (h3 i hi).1 hb, (h3 i hi).2⟩, h4⟩
theorem own3_within {w w' : World} {lo hi lo' hi' : Nat} {v : Value} {n : Nat} {F : Nat → List (List Int)} (h : Own3F w lo hi v n F) (hw : Within lo' hi' w w') (ha : hi ≤ lo' ∨ hi' ≤ lo) : Own3F w' lo hi v n F := by
  obtain ⟨us, a, b, h1, h2, h3, h4⟩ := h
  exact ⟨us, a, b, own_within h1 hw fun k hk => by have h4 := h2 k hk; have h5 := (h1.lt k hk).1; omega, h2, fun i hi => ⟨ownMat_within (h3 i hi).1 hw (by have := (h3 i hi).2; omega), (h3 i hi).2⟩, h4⟩
theorem own3_ims {w : World} {lo : Nat} {v : Value} {ms : List (List (List Int))} (h : OwnIms w lo v ms) : Own3F w lo w.heap.size v ms.length fun i => ms.getD i [] := by
  obtain ⟨us, a, b, h1, h2, h3⟩ := h
  refine ⟨us, a, fun i => min (b i) w.heap.size, h1, fun k hk => (h1.lt k hk).2, fun i hi => ?_, fun i j hij hj => Nat.le_trans (Nat.min_le_left _ _) (h3 i j hij hj)⟩
  obtain ⟨⟨vs, g1, g2, g3, g4⟩, g5, g6⟩ := h2 i hi
  refine ⟨?_, g5, Nat.min_le_right _ _, fun k hk => (g6 k hk).imp id (fun h => Nat.le_trans (Nat.min_le_left _ _) h)⟩
  show OwnMat w (a i) _ _ (ms.getD i [])
  rw [List.getD_eq_getElem?_getD (l := ms), List.getElem?_eq_getElem hi, Option.getD_some]
  exact ⟨vs, g1, fun k hk => Nat.lt_min.2 ⟨g2 k hk, (g1.lt k hk).2⟩, fun j hj => ⟨(g3 j hj).1, fun k hk => Nat.lt_min.2 ⟨(g3 j hj).2 k hk, ((g3 j hj).1.lt k hk).2⟩⟩, g4⟩
/-- The cells of the first images. -/
def c3 (F : Nat → List (List Int)) : Nat → Nat
  | 0 => 0
  | i + 1 => c3 F i + cellsM (F i)
theorem c3_le {F : Nat → List (List Int)} {n : Nat} (h : ∀ i, i < n → (F i).length ≤ 5 ∧ cellsM (F i) ≤ 25) : ∀ j, j ≤ n → c3 F j ≤ 25 * j
  | 0, _ => Nat.le_refl _
  | j + 1, hj => by
    have h1 := c3_le h j (by omega)
    have h2 := (h j (by omega)).2
    rw [c3]; omega
set_option maxHeartbeats 400000 in
theorem markIntSS_big (m : List (List Int)) (q lo hi : Nat) (v : Value) (w : World) (hn : m.length + cellsM m ≤ 1000000) (hq : q ≤ 2600000) (hv : OwnMat w lo hi v m) :
    Calls Try.prog 25 #[v, .int .i64 q] w fun e w' => e = .returned (.int .i64 (q + cellsM m : Nat)) ∧ OwnMat w' lo hi v (markM m q) ∧ Within lo hi w w' := by
  have hin := inMat_own hv
  obtain ⟨a, c, rfl, hm, hp⟩ := hin
  unfold maxLen at hm
  by_cases h0 : m.length = 0
  · have hr : m = [] := List.eq_nil_of_length_eq_zero h0
    subst hr
    have HV := hide hv
    clear hp hm h0 hn hv
    go_enter Try.func25, Try.ntmps25
    go_wp2
    go_loop [1, 5] (fun k i => i = .int .i64 0 ∧ k = .int .i64 q) (fun _ _ => 0)
    case atStart => exact ⟨rfl, rfl⟩
    case round =>
      obtain ⟨rfl, rfl⟩ := hrel
      go_wp2
      go_ret
      exact ⟨rfl, HV.out, within_refl _ _ _⟩
  · obtain ⟨g, o, rfl, hg, -⟩ := hp.resolve_left h0
    have ho : o = 0 := by
      obtain ⟨vs, hvs, -⟩ := hv
      rcases hvs.2 with ⟨e, _⟩ | ⟨g', cap, cur, e, _⟩
      · cases e
      · cases e; rfl
    subst ho
    have HV := hide hv
    clear hp h0 hv
    go_enter Try.func25, Try.ntmps25
    go_wp2
    go_loopw [1, 5] (fun k i w' => ∃ j t : Nat, j ≤ m.length ∧ i = .int .i64 j ∧ k = .int .i64 (q + t : Nat) ∧ cellsM (m.take j) = t ∧ OwnMat w' lo hi (.slice (some ⟨g, 0, none⟩) m.length c) (markTo m q j) ∧ Within lo hi w w') (fun _ i _ => m.length - (intOf i).toNat)
    case atStart => exact ⟨0, 0, Nat.zero_le _, rfl, rfl, by simp [cellsM], HV.out, within_refl _ _ _⟩
    case round =>
      obtain ⟨j, t, hj, rfl, rfl, ht, hown, hw⟩ := hrel
      have HT := hide ht; have HO := hide hown; have HW := hide hw
      have hle : t ≤ 1000000 := by have := cells_take m j; omega
      clear ht hown hw
      by_cases hlt : j < m.length
      · have hl := markTo_len m q j
        obtain ⟨u, hx, -, hu, huh, hset⟩ := ownMat_row HO.out j (by rw [hl]; exact hlt)
        have ha := markTo_at m q j j (by rw [hl]; exact hlt) hlt
        rw [if_neg (by omega)] at ha
        rw [ha] at hu hset
        have HU := hide hu; have HH := hide huh; have HS := hide hset
        have hrow : m[j].length ≤ 2000000 := by have := cells_row m j hlt; omega
        have HC := hide (cells_snoc m j hlt)
        have HD : Hid ((markTo m q j).set j (markR m[j].length (q + t)) = markTo m q (j + 1)) := hide (by
          rw [markTo, HT.out, List.getD_eq_getElem?_getD, List.getElem?_eq_getElem hlt]; rfl)
        clear hl ha hu huh hset
        obtain ⟨n, hnn⟩ : ∃ n, n = m[j].length := ⟨_, rfl⟩
        rw [← hnn] at HU hrow HC HD HS
        clear hnn
        go_wp2_with (go_at_call 33; refine (markIntS_any n (q + t) _ _ _ _ hrow (by omega) HU.out).mono ?_; rintro e w2 ⟨rfl, ho2, hg2⟩; have HO2 := hide ho2; have HG2 := hide hg2; clear ho2 hg2)
        go_roundw
        case rel =>
          have h1 := HS.out _ (markR n (q + t)) HO2.out (markR_len _ _) HG2.out
          rw [HD.out] at h1
          exact ⟨j + 1, t + n, by omega, by go_num, by go_num, by rw [HC.out, HT.out], h1, within_trans HW.out (within_grown HG2.out fun k hk => ⟨(HU.out.lt k hk).1, HH.out k hk⟩)⟩
        case measure => simp [intOf]; omega
      · obtain rfl : j = m.length := by omega
        have HA := hide (cells_all m m.length (Nat.le_refl _))
        go_wp2
        go_ret
        exact ⟨ret_int (by rw [← HA.out, HT.out]), HO.out, HW.out⟩

set_option maxHeartbeats 400000 in
theorem heldIntSS_big (m : List (List Int)) (q : Nat) (v : Value) (w : World) (hn : m.length + cellsM m ≤ 1000000) (hq : q ≤ 2600000) (hv : InMat w v (markM m q)) :
    Calls Try.prog 40 #[v, .int .i64 q] w fun e w' => e = .returned (.int .i64 (q + cellsM m : Nat)) ∧ Below w.heap.size w w' := by
  have hl := markM_len m q
  obtain ⟨a, c, rfl, -, hp⟩ := hv
  by_cases h0 : m.length = 0
  · have hr : m = [] := List.eq_nil_of_length_eq_zero h0
    subst hr
    clear hp h0 hn hl
    go_enter Try.func40, Try.ntmps40
    go_wp2
    go_loop [1, 5] (fun k i => i = .int .i64 0 ∧ k = .int .i64 q) (fun _ _ => 0)
    case atStart => exact ⟨rfl, rfl⟩
    case round =>
      obtain ⟨rfl, rfl⟩ := hrel
      go_wp2
      go_ret
      exact ⟨rfl, Below.refl _ _⟩
  · obtain ⟨g, o, rfl, hg, hcell⟩ := hp.resolve_left (by rw [hl]; exact h0)
    have HC := hide hcell; have HL := hide hl
    rw [hl]
    clear hp hcell h0 hl
    go_enter Try.func40, Try.ntmps40
    go_wp2
    go_loopw [1, 5] (fun k i w' => ∃ j t : Nat, j ≤ m.length ∧ i = .int .i64 j ∧ k = .int .i64 (q + t : Nat) ∧ cellsM (m.take j) = t ∧ Below w.heap.size w w') (fun _ i _ => m.length - (intOf i).toNat)
    case atStart => exact ⟨0, 0, Nat.zero_le _, rfl, rfl, by simp [cellsM], Below.refl _ _⟩
    case round =>
      obtain ⟨j, t, hj, rfl, rfl, ht, hb⟩ := hrel
      have HT := hide ht; have HB := hide hb
      have hle : t ≤ 1000000 := by have := cells_take m j; omega
      clear ht hb
      by_cases hlt : j < m.length
      · obtain ⟨u, hx, hr⟩ := HC.out j (by rw [HL.out]; exact hlt)
        have hx : wr.cell? ⟨g, o + j, none⟩ = some u := below_cell HB.out hg hx
        have hr := inRow_below hr HB.out
        rw [markM_at m q j _ hlt, HT.out] at hr
        have HR := hide hr
        have hrow : m[j].length ≤ 2000000 := by have := cells_row m j hlt; omega
        have HS := hide (cells_snoc m j hlt)
        clear hr
        obtain ⟨n, hnn⟩ : ∃ n, n = m[j].length := ⟨_, rfl⟩
        rw [← hnn] at HR hrow HS
        clear hnn
        go_wp2_with (go_at_call 76; refine (heldIntS_any n (q + t) _ _ hrow (by omega) HR.out).mono ?_; rintro e w2 ⟨rfl, hb2⟩; have HB2 := hide hb2; clear hb2)
        go_roundw
        case rel => exact ⟨j + 1, t + n, by omega, by go_num, by go_num, by rw [HS.out, HT.out], HB.out.trans (HB2.out.mono HB.out.size)⟩
        case measure => simp [intOf]; omega
      · obtain rfl : j = m.length := by omega
        have HA := hide (cells_all m m.length (Nat.le_refl _))
        go_wp2
        go_ret
        exact ⟨ret_int (by rw [← HA.out, HT.out]), HB.out⟩
set_option maxHeartbeats 400000 in
theorem eqIntSSS_same (va vb : Value) (n : Nat) (F : Nat → List (List Int)) (w : World) (ha : In3F w va n F) (hb : In3F w vb n F) :
    Calls Try.prog 31 #[va, vb] w fun e w' => e = .returned (.bool true) ∧ Below w.heap.size w w' := by
  obtain ⟨a, ca, rfl, hm, hpa⟩ := ha
  obtain ⟨b, cb, rfl, -, hpb⟩ := hb
  unfold maxLen at hm
  by_cases h0 : n = 0
  · subst h0
    clear hpa hpb hm
    go_enter Try.func31, Try.ntmps31
    go_wp2
    go_loop [5] (fun i => i = .int .i64 0) (fun _ => 0)
    case atStart => rfl
    case round =>
      obtain rfl := hrel
      go_wp2
      go_ret
      exact ⟨rfl, Below.refl _ _⟩
  · obtain ⟨ga, oa, rfl, hga, hca⟩ := hpa.resolve_left h0
    obtain ⟨gb, ob, rfl, hgb, hcb⟩ := hpb.resolve_left h0
    have HA := hide hca; have HB := hide hcb
    clear hpa hpb hca hcb h0
    go_enter Try.func31, Try.ntmps31
    go_wp2
    go_loopw [5] (fun i w' => ∃ k : Nat, k ≤ n ∧ i = .int .i64 k ∧ Below w.heap.size w w') (fun i _ => n - (intOf i).toNat)
    case atStart => exact ⟨0, Nat.zero_le _, rfl, Below.refl _ _⟩
    case round =>
      obtain ⟨k, hk, rfl, hb⟩ := hrel
      by_cases hlt : k < n
      · obtain ⟨ua, hxa, hra⟩ := HA.out k hlt
        obtain ⟨ub, hxb, hrb⟩ := HB.out k hlt
        have hxa := below_cell hb hga hxa
        have hxb := below_cell hb hgb hxb
        have HRA := hide (inMat_below hra hb)
        have HRB := hide (inMat_below hrb hb)
        have hgra : ga < wr.heap.size := Nat.lt_of_lt_of_le hga hb.size
        have hgrb : gb < wr.heap.size := Nat.lt_of_lt_of_le hgb hb.size
        clear hra hrb
        have hb := hide hb
        go_wp2
        go_region_held3 (fun w' => w'.cell? ⟨ga, oa + k, none⟩ = some ua ∧ w'.cell? ⟨gb, ob + k, none⟩ = some ub ∧ Below wr.heap.size wr w') (first | exact ⟨hxa, hxb, (Below.refl _ _).drew⟩ | exact ⟨below_cell (w := wr) ((Below.refl _ _).drew.trans hb') hgra hxa, below_cell (w := wr) ((Below.refl _ _).drew.trans hb') hgrb hxb, (Below.refl _ _).drew.trans hb'⟩) (first | (go_at_call 22; refine (eqIntSS_same _ _ _ _ (inMat_below HRA.out ((Below.refl _ _).drew)) (inMat_below HRB.out ((Below.refl _ _).drew))).mono ?_; rintro e w' ⟨rfl, hb'⟩))
        go_wp2
        obtain ⟨-, -, hS⟩ := ‹World.cell? _ _ = _ ∧ World.cell? _ _ = _ ∧ Below _ _ _›
        go_roundw
        case rel => exact ⟨k + 1, by omega, by go_num, hb.out.trans (hS.mono hb.out.size)⟩
        case measure => simp [intOf]; omega
      · go_wp2
        go_ret
        exact ⟨rfl, hb⟩


set_option maxHeartbeats 400000 in
theorem markIntSSS_any (n : Nat) (F : Nat → List (List Int)) (q lo hi : Nat) (v : Value) (w : World) (hF : ∀ i, i < n → (F i).length ≤ 5 ∧ cellsM (F i) ≤ 25) (hn : n ≤ 100000) (hq : q ≤ 10) (hv : Own3F w lo hi v n F) :
    Calls Try.prog 34 #[v, .int .i64 q] w fun e w' => e = .returned (.int .i64 (q + c3 F n : Nat)) ∧ Own3F w' lo hi v n (fun i => markM (F i) (q + c3 F i)) ∧ Within lo hi w w' := by
  obtain ⟨us, a, b, h1, h2, h3, h4⟩ := hv
  obtain ⟨sa, sc, rfl⟩ := own_slice h1
  have H2 := hide h2; have H4 := hide h4
  have HB3 := hide fun i hi => (h3 i hi).2
  have HC3 := hide (c3_le hF)
  have HF := hide hF
  have HP := hide fun (h : 0 < n) => own_some h1 h
  have HS := hide (show w.ownsRow lo 23 1 (.slice sa n sc) n us ∧ ∀ i, i < n → OwnMat w (a i) (b i) (us.getD i undef) (if i < 0 then markM (F i) (q + c3 F i) else F i) from ⟨h1, fun i hi => by rw [if_neg (by omega)]; exact (h3 i hi).1⟩)
  clear h1 h2 h3 h4 hF
  go_enter Try.func34, Try.ntmps34
  go_wp2
  go_loopw [1, 5] (fun k i w' => ∃ j t : Nat, j ≤ n ∧ i = .int .i64 j ∧ k = .int .i64 (q + t : Nat) ∧ c3 F j = t ∧ (w'.ownsRow lo 23 1 (.slice sa n sc) n us ∧ ∀ i, i < n → OwnMat w' (a i) (b i) (us.getD i undef) (if i < j then markM (F i) (q + c3 F i) else F i)) ∧ Within lo hi w w') (fun _ i _ => n - (intOf i).toNat)
  case atStart => exact ⟨0, 0, Nat.zero_le _, rfl, rfl, rfl, HS.out, within_refl _ _ _⟩
  case round =>
    obtain ⟨j, t, hj, rfl, rfl, ht, hown, hw⟩ := hrel
    have HT := hide ht; have HO := hide hown; have HW := hide hw
    have hle : t ≤ 2500000 := by rw [← ht]; have := HC3.out j hj; omega
    clear ht hown hw
    by_cases hlt : j < n
    · obtain ⟨g, cap, hsl, -, -, -, -, -, -⟩ := HP.out (by omega)
      cases hsl
      have hx := cell_held HO.out.1 hlt
      have hmj := HO.out.2 j hlt
      rw [if_neg (by omega)] at hmj
      have HMJ := hide hmj
      obtain ⟨u, hu⟩ : ∃ u, u = us.getD j undef := ⟨_, rfl⟩
      have HU := hide hu
      rw [← hu] at hx HMJ
      obtain ⟨ua, un, uc, rfl⟩ : ∃ a n c, u = .slice a n c := by obtain ⟨a, c, h, -⟩ := inMat_own HMJ.out; exact ⟨a, _, c, h⟩
      obtain ⟨m, hm⟩ : ∃ m, m = F j := ⟨_, rfl⟩
      have HM := hide hm
      rw [← hm] at HMJ
      have hmb : m.length + cellsM m ≤ 1000000 := by have := HF.out j hlt; rw [hm]; omega
      have HMB := hide hmb
      clear hmj hu hm hmb
      go_wp2_with (go_at_call 25; refine (markIntSS_big m (q + t) (a j) (b j) _ _ HMB.out (by omega) HMJ.out).mono ?_; rintro e w2 ⟨rfl, ho2, hg2⟩; have HO2 := hide ho2; have HG2 := hide hg2; clear ho2 hg2)
      go_roundw
      case rel =>
        obtain ⟨g1, g2, g3⟩ := HB3.out j hlt
        refine ⟨j + 1, t + cellsM m, by omega, by go_num, by go_num, by rw [c3, HT.out, HM.out], ⟨own_within HO.out.1 HG2.out g3, fun i hi => ?_⟩, within_trans HW.out ⟨HG2.out.os, HG2.out.tape, HG2.out.output, HG2.out.size, fun k hk ho => HG2.out.block k hk (by omega)⟩⟩
        rcases Nat.lt_trichotomy i j with h | h | h
        · rw [if_pos (by omega)]
          have := HO.out.2 i hi
          rw [if_pos h] at this
          exact ownMat_within this HG2.out (.inl (H4.out i j h hlt))
        · subst h
          rw [if_pos (by omega), HT.out, ← HU.out, ← HM.out]
          exact HO2.out
        · rw [if_neg (by omega)]
          have := HO.out.2 i hi
          rw [if_neg (by omega)] at this
          exact ownMat_within this HG2.out (.inr (H4.out j i h hi))
      case measure => simp [intOf]; omega
    · obtain rfl : j = n := by omega
      go_wp2
      go_ret
      exact ⟨ret_int (by rw [HT.out]), ⟨us, a, b, HO.out.1, H2.out, fun i hi => ⟨by have := HO.out.2 i hi; rw [if_pos hi] at this; exact this, HB3.out i hi⟩, H4.out⟩, HW.out⟩

set_option maxHeartbeats 400000 in
theorem heldIntSSS_any (n : Nat) (F : Nat → List (List Int)) (q : Nat) (v : Value) (w : World) (hF : ∀ i, i < n → (F i).length ≤ 5 ∧ cellsM (F i) ≤ 25) (hn : n ≤ 100000) (hq : q ≤ 10) (hv : In3F w v n (fun i => markM (F i) (q + c3 F i))) :
    Calls Try.prog 35 #[v, .int .i64 q] w fun e w' => e = .returned (.int .i64 (q + c3 F n : Nat)) ∧ Below w.heap.size w w' := by
  obtain ⟨a, c, rfl, -, hp⟩ := hv
  have HC3 := hide (c3_le hF)
  have HF := hide hF
  have HP := hide fun (h : 0 < n) => hp.resolve_left (by omega)
  clear hp hF
  go_enter Try.func35, Try.ntmps35
  go_wp2
  go_loopw [1, 5] (fun k i w' => ∃ j t : Nat, j ≤ n ∧ i = .int .i64 j ∧ k = .int .i64 (q + t : Nat) ∧ c3 F j = t ∧ Below w.heap.size w w') (fun _ i _ => n - (intOf i).toNat)
  case atStart => exact ⟨0, 0, Nat.zero_le _, rfl, rfl, rfl, Below.refl _ _⟩
  case round =>
    obtain ⟨j, t, hj, rfl, rfl, ht, hb⟩ := hrel
    have HT := hide ht; have HB := hide hb
    have hle : t ≤ 2500000 := by rw [← ht]; have := HC3.out j hj; omega
    clear ht hb
    by_cases hlt : j < n
    · obtain ⟨g, o, rfl, hg, hc⟩ := HP.out (by omega)
      obtain ⟨u, hx, hr⟩ := hc j hlt
      have hx : wr.cell? ⟨g, o + j, none⟩ = some u := below_cell HB.out hg hx
      have hr := inMat_below hr HB.out
      rw [HT.out] at hr
      have HR := hide hr
      obtain ⟨ua, un, uc, rfl⟩ : ∃ a n c, u = .slice a n c := by obtain ⟨a, c, h, -⟩ := hr; exact ⟨a, _, c, h⟩
      obtain ⟨m, hm⟩ : ∃ m, m = F j := ⟨_, rfl⟩
      have HM := hide hm
      rw [← hm] at HR
      have hmb : m.length + cellsM m ≤ 1000000 := by have := HF.out j hlt; rw [hm]; omega
      have HMB := hide hmb
      clear hr hc hm hmb
      go_wp2_with (go_at_call 40; refine (heldIntSS_big m (q + t) _ _ HMB.out (by omega) HR.out).mono ?_; rintro e w2 ⟨rfl, hb2⟩; have HB2 := hide hb2; clear hb2)
      go_roundw
      case rel => exact ⟨j + 1, t + cellsM m, by omega, by go_num, by go_num, by rw [c3, HT.out, HM.out], HB.out.trans (HB2.out.mono HB.out.size)⟩
      case measure => simp [intOf]; omega
    · obtain rfl : j = n := by omega
      go_wp2
      go_ret
      exact ⟨ret_int (by rw [HT.out]), HB.out⟩
end Go.Proofs.Ytpfaaglaeholbaa
/-
  FixedCells of the model.
-/
namespace Go.Proofs.Ytpfaaglaeholbaa
open Go.RowKit

set_option maxRecDepth 100000 in
set_option maxHeartbeats 2000000 in
theorem specFixed_yes (va vb : Value) (r c : List Int) (w : World) (ha : RowC w va r) (hb : RowC w vb c) (h : existsOf r c = true) :
    Calls Try.prog 38 #[va, vb] w (MatRes (fixedIm r c) w) := by
  have HA := hide ha.1; have HB := hide hb.1; have H := hide h
  have HALL := hide fun (w' : World) (hw : Below w.heap.size w w') => specAll_start r c va vb w w' ha hb.1 h hw
  obtain ⟨hr5, hc5, -⟩ := sumsOk_yes (existsOf_sums h)
  obtain ⟨l, hl⟩ := all_first r c hr5.2 hc5 (img_of_exists h)
  obtain ⟨f0, hf0⟩ : ∃ f0, f0 = cellF (imgL leastCh r c) := ⟨_, rfl⟩
  have HIMG := hide fun m (hm : m ∈ allL r c) => (fun (q : _) => mkM_cellF (R := r.length) (C := c.length) q.1 q.2.1) (all_sound r c hr5.2 hc5 (img_of_exists h) m hm)
  have HLM := hide (least_cells h).1
  have HLEN := hide (show (allL r c).length ≤ 100000 by rw [← allIm_sums (existsOf_sums h)]; exact allIm_len r c)
  rw [← hf0] at HLM
  have HFI := hide (show fixedIm r c = mkM r.length c.length (fixF f0 (allL r c)) by unfold fixedIm; rw [if_pos h, hf0])
  rw [HFI.out]
  obtain ⟨xa, ca, hva, -, -⟩ := ha.1
  obtain ⟨xb, cb, hvb, -, -⟩ := hb.1
  subst hva hvb
  have HL0 := hide (show (allL r c).getD 0 [] = mkM r.length c.length f0 by rw [hl]; exact HLM.out)
  have hpos : 0 < (allL r c).length := by rw [hl]; simp
  obtain ⟨L, hL⟩ : ∃ L, L = allL r c := ⟨_, rfl⟩
  rw [← hL] at HALL HIMG HLEN HL0 hpos ⊢
  obtain ⟨R, hR⟩ : ∃ R, R = r.length := ⟨_, rfl⟩
  obtain ⟨C, hCC⟩ : ∃ C, C = c.length := ⟨_, rfl⟩
  rw [← hR] at HA HALL HIMG HL0 hr5 ⊢
  rw [← hCC] at HB HALL HIMG HL0 hc5 ⊢
  have HRC := hide (And.intro hr5 hc5)
  obtain ⟨n, hn⟩ : ∃ n, n = L.length := ⟨_, rfl⟩
  have HN := hide hn
  rw [← hn] at HLEN hpos
  have hn6 := HLEN.out
  clear ha hb h hl hf0 hL hR hCC hr5 hc5 hn
  go_enter Try.func38, Try.ntmps38
  go_wp2_with ((with_reducible refine (specExists_any _ _ r c _ HA.out HB.out).mono ?_); rw [H.out]; rintro e w1 ⟨rfl, b1⟩; have B1 := hide b1; clear b1)
  refine (HALL.out _ B1.out).mono ?_
  rintro e w2 ⟨u, rfl, hims, hb2⟩
  have hu := ownU_imgs hims
  rw [← HN.out] at hu
  obtain ⟨us, hv, hvh, hmm⟩ := id hu
  obtain ⟨g, cap, rfl, -, -, -, -, -, -⟩ := own_some hv (by omega)
  have hx := cell_held hv (show 0 < n by omega)
  have hm0 : OwnMat w2 w.heap.size w2.heap.size (us.getD 0 undef) (L.getD 0 []) := hmm 0 hpos
  rw [HL0.out] at hm0
  obtain ⟨u0, hu0⟩ : ∃ u0, u0 = us.getD 0 undef := ⟨_, rfl⟩
  rw [← hu0] at hx hm0
  obtain ⟨g0, cap0, rfl⟩ := ownMat_some hm0 (by rw [mkM_len]; have := HRC.out; omega)
  have HM0 := hide hm0
  have HB2 := hide hb2
  have HU2 := hide hu
  clear hims hu hv hvh hmm hm0 hu0 hb2
  rw [mkM_len] at hx HM0
  go_wp2_with fail
  refine (copyRows_any _ (mkM R C f0) w.heap.size w2 (matT_own HM0.out) (by rw [mkM_len]; have := HRC.out; omega) (fun q hq => by
      obtain ⟨y, hy, rfl⟩ := List.getElem_of_mem hq
      rw [mkM_at, rowF_len]; have := HRC.out; omega)).mono ?_
  rintro e w3 ⟨vo, rfl, ho, hb3⟩
  obtain ⟨go, co, rfl⟩ := ownMat_some ho (by rw [mkM_len]; have := HRC.out; omega)
  rw [mkM_len] at ho ⊢
  have HO := hide ho
  have HU3 := hide (ownU_below HU2.out hb3)
  have HB3 := hide (HB2.out.trans (hb3.mono HB2.out.size))
  have HS3 := hide (And.intro HB2.out.size hb3.size)
  clear ho hb3 hx
  have HU := hide (show OwnU w3 w.heap.size w2.heap.size (.slice (some ⟨g, 0, none⟩) n cap) n (fun i => L.getD i []) from HU3.out)
  go_wp2
  go_loopw [26] (fun i w' => ∃ t : Nat, t ≤ n ∧ i = .int .i64 t ∧ OwnMat w' w2.heap.size w3.heap.size (.slice (some ⟨go, 0, none⟩) R co) (mkM R C (fixF f0 (L.take t))) ∧ OwnU w' w.heap.size w2.heap.size (.slice (some ⟨g, 0, none⟩) n cap) n (fun i => L.getD i []) ∧ Within w2.heap.size w3.heap.size w3 w') (fun i _ => n - (intOf i).toNat)
  case atStart => exact ⟨0, Nat.zero_le _, rfl, HO.out, HU.out, within_refl _ _ _⟩
  case round =>
    obtain ⟨t, ht, rfl, hv, hu, hw⟩ := hrel
    by_cases hltt : t < n
    · obtain ⟨us, hus, hush, hmm⟩ := id hu
      have hxi := cell_held hus hltt
      have hLt : t < L.length := by rw [← HN.out]; exact hltt
      obtain ⟨m, hm⟩ : ∃ m, m = L[t] := ⟨_, rfl⟩
      have hgd : L.getD t [] = m := by rw [List.getD_eq_getElem?_getD, List.getElem?_eq_getElem hLt, hm]; rfl
      have hme : m = mkM R C (cellF m) := HIMG.out m (by rw [hm]; exact List.getElem_mem hLt)
      have HSN := hide (show fixF f0 (L.take (t + 1)) = frF (fixF f0 (L.take t)) (cellF m) by rw [List.take_succ_eq_append_getElem hLt, ← hm, fixF_snoc])
      have hmt : OwnMat wr w.heap.size w2.heap.size (us.getD t undef) (mkM R C (cellF m)) := by
        have : OwnMat wr w.heap.size w2.heap.size (us.getD t undef) (L.getD t []) := hmm t hltt
        rw [hgd] at this; rw [← hme]; exact this
      obtain ⟨ut, hut⟩ : ∃ ut, ut = us.getD t undef := ⟨_, rfl⟩
      rw [← hut] at hxi hmt
      obtain ⟨gb, cb2, rfl⟩ := ownMat_some hmt (by rw [mkM_len]; have := HRC.out; omega)
      rw [mkM_len] at hmt hxi
      obtain ⟨f, hf⟩ : ∃ f, f = fixF f0 (L.take t) := ⟨_, rfl⟩
      obtain ⟨gf, hgf⟩ : ∃ gf, gf = cellF m := ⟨_, rfl⟩
      rw [← hf] at hv HSN
      rw [← hgf] at hmt HSN
      have HV := hide (show OwnMat wr w2.heap.size w3.heap.size (.slice (some ⟨go, 0, none⟩) R co) (mkM R C (frP f gf 0 0)) by rw [frP_zero]; exact hv)
      have HMT := hide hmt; have HUU := hide hu; have HW0 := hide hw
      obtain ⟨⟨hR1, hR5⟩, hC1, hC5⟩ := HRC.out
      clear hv hu hw hus hush hmm hLt hm hgd hme hmt hut hf hgf
      go_wp2
      clear hxi
      go_loopw [32] (fun i w' => ∃ y : Nat, y ≤ R ∧ i = .int .i64 y ∧ OwnMat w' w2.heap.size w3.heap.size (.slice (some ⟨go, 0, none⟩) R co) (mkM R C (frP f gf y 0)) ∧ (OwnMat w' w.heap.size w2.heap.size (.slice (some ⟨gb, 0, none⟩) R cb2) (mkM R C gf) ∧ OwnU w' w.heap.size w2.heap.size (.slice (some ⟨g, 0, none⟩) n cap) n (fun i => L.getD i [])) ∧ Within w2.heap.size w3.heap.size w3 w') (fun i _ => R - (intOf i).toNat)
      case atStart => exact ⟨0, Nat.zero_le _, rfl, HV.out, ⟨HMT.out, HUU.out⟩, HW0.out⟩
      case round =>
        obtain ⟨y, hy, rfl, hv, hm, hw⟩ := hrel
        have HV1 := hide hv; have HM1 := hide hm; have HW1 := hide hw
        clear hv hm hw
        by_cases hlt : y < R
        · obtain ⟨g2, c2, hrow2, -, -, -, -, -⟩ := ownMat_cell HM1.out.1 y 0 hlt (by omega)
          have HR2 := hide hrow2
          go_wp2
          clear hrow2
          go_loopw [39] (fun i w' => ∃ x : Nat, x ≤ C ∧ i = .int .i64 x ∧ OwnMat w' w2.heap.size w3.heap.size (.slice (some ⟨go, 0, none⟩) R co) (mkM R C (frP f gf y x)) ∧ ((OwnMat w' w.heap.size w2.heap.size (.slice (some ⟨gb, 0, none⟩) R cb2) (mkM R C gf) ∧ OwnU w' w.heap.size w2.heap.size (.slice (some ⟨g, 0, none⟩) n cap) n (fun i => L.getD i [])) ∧ w'.cell? ⟨gb, y, none⟩ = some (.slice (some ⟨g2, 0, none⟩) C c2)) ∧ Within w2.heap.size w3.heap.size w3 w') (fun i _ => C - (intOf i).toNat)
          case atStart => exact ⟨0, Nat.zero_le _, rfl, HV1.out, ⟨HM1.out, HR2.out⟩, HW1.out⟩
          case round =>
            obtain ⟨x, hx, rfl, hv, hm, hw⟩ := hrel
            by_cases hlx : x < C
            · obtain ⟨g1, c1, hrow1, hcl1, hfr1, hlo1, hhi1, hset1⟩ := ownMat_cell hv y x hlt hlx
              obtain ⟨g3, c3', hrow3, hcl3, -, hlo3, hhi3, -⟩ := ownMat_cell hm.1.1 y x hlt hlx
              obtain ⟨rfl, rfl⟩ : g3 = g2 ∧ c3' = c2 := by have := hm.2; rw [hrow3] at this; cases this; exact ⟨rfl, rfl⟩
              rw [frP_at] at hcl1
              have HV2 := hide hv; have HM2 := hide hm; have HW2 := hide hw; have HSET := hide hset1
              obtain ⟨p, hp⟩ : ∃ p, p = f y x := ⟨_, rfl⟩
              obtain ⟨q, hq⟩ : ∃ q, q = gf y x := ⟨_, rfl⟩
              have HP := hide hp; have HQ := hide hq
              rw [← hp] at hcl1
              rw [← hq] at hcl3
              clear hv hm hw hset1 hp hq
              by_cases e : p = q
              · have hne : (p != q) = false := by rw [e]; simp
                have HE := hide e
                clear e
                go_wp2
                go_roundw
                case rel => exact ⟨x + 1, by omega, by go_num, by rw [← frP_same (by rw [← HP.out, ← HQ.out]; exact HE.out)]; exact HV2.out, HM2.out, HW2.out⟩
                case measure => simp [intOf]; omega
              · have hne : (p != q) = true := bne_iff_ne.2 e
                have HE := hide e
                clear e
                go_wp2
                go_roundw
                case rel =>
                  have hwi : Within w2.heap.size w3.heap.size wr (wr.setCell ⟨g1, x, none⟩ (.int .i64 (-1))) := ⟨rfl, rfl, rfl, by simp [World.setCell], fun k _ ho => Below.heap_setCell _ _ _ _ (show k ≠ g1 by omega)⟩
                  refine ⟨x + 1, by omega, by go_num, by rw [← frP_put (by rw [← HP.out, ← HQ.out]; exact HE.out)]; exact HSET.out (-1), ⟨⟨ownMat_within HM2.out.1.1 hwi (.inl (Nat.le_refl _)), ownU_within HM2.out.1.2 hwi (.inl (Nat.le_refl _))⟩, ?_⟩, within_trans HW2.out hwi⟩
                  have hgb : gb < w2.heap.size := by
                    obtain ⟨us, h1, h2, -⟩ := HM2.out.1.1
                    exact h2 gb rfl
                  exact (World.cell?_of_block (Below.heap_setCell _ _ _ _ (show gb ≠ g1 by omega))).trans HM2.out.2
                case measure => simp [intOf]; omega
            · obtain rfl : x = C := by omega
              have HV2 := hide hv; have HM2 := hide hm; have HW2 := hide hw
              clear hv hm hw
              go_wp2
              go_roundw
              case rel => exact ⟨y + 1, by omega, by go_num, by rw [← frP_row]; exact HV2.out, HM2.out.1, HW2.out⟩
              case measure => simp [intOf]; omega
        · obtain rfl : y = R := by omega
          go_wp2
          go_roundw
          case rel => exact ⟨t + 1, by omega, by go_num, by rw [HSN.out, ← frP_all]; exact HV1.out, HM1.out.2, HW1.out⟩
          case measure => simp [intOf]; omega
    · obtain rfl : t = n := by omega
      have HE := hide (show L.take t = L from List.take_of_length_le (by rw [← HN.out]; exact Nat.le_refl _))
      have HV := hide hv; have HW0 := hide hw
      clear hv hu hw
      go_wp2
      go_ret
      have h1 := HV.out
      rw [HE.out] at h1
      have hs1 := HS3.out
      exact ⟨_, rfl, ownMat_mono h1 hs1.1 HW0.out.size, HB3.out.trans (below_within HW0.out hs1.1 HB3.out.size)⟩
set_option maxHeartbeats 400000 in
theorem specFixed_any (va vb : Value) (r c : List Int) (w : World) (ha : RowC w va r) (hb : RowC w vb c) :
    Calls Try.prog 38 #[va, vb] w (MatRes (fixedIm r c) w) := by
  cases h : existsOf r c with
  | true => exact specFixed_yes va vb r c w ha hb h
  | false =>
    have HA := hide ha.1; have HB := hide hb.1; have H := hide h
    rw [fixedIm, if_neg (by rw [h]; decide)]
    clear ha hb h
    go_enter Try.func38, Try.ntmps38
    go_wp2_with ((with_reducible refine (specExists_any va vb r c _ HA.out HB.out).mono ?_); rw [H.out]; rintro e w1 ⟨rfl, b1⟩; have B1 := hide b1; clear b1)
    go_ret
    exact ⟨_, rfl, ownMat_nil _ _ _, B1.out⟩
end Go.Proofs.Ytpfaaglaeholbaa
/-
  The exact law on FixedCells, walked.
-/
namespace Go.Proofs.Ytpfaaglaeholbaa
open Go.RowKit
set_option linter.unusedVariables false

set_option maxRecDepth 100000 in
set_option maxHeartbeats 2000000 in
theorem lawFixedCells_gen (a0 : Option Addr) (n0 c0 : Nat) (r0 : List Int) (a1 : Option Addr) (n1 c1 : Nat) (r1 : List Int) (w : World) (hin0 : InRow w (.slice a0 n0 c0) r0) (hin1 : InRow w (.slice a1 n1 c1) r1) (rows : List (List Int)) (hrows : rows.length + cellsM rows ≤ 1000000)
    (hs : ∀ (v0 : Value) (v1 : Value) (w : World), RowC w v0 r0 → RowC w v1 r1 → Calls Try.prog 38 #[v0, v1] w (MatRes rows w))
    (hi : ∀ (v0 : Value) (v1 : Value) (w : World), RowC w v0 r0 → RowC w v1 r1 → Calls Try.prog 39 #[v0, v1] w (MatRes rows w)) :
    Calls Try.prog 8 #[.slice a0 n0 c0, .slice a1 n1 c1] w fun e w' => e = .returned (.bool true) ∧ Below w.heap.size w w' := by
  have HI0 := hide hin0
  obtain ⟨a', c', he, hm0, -⟩ := hin0
  cases he
  unfold maxLen at hm0
  have HI1 := hide hin1
  obtain ⟨a', c', he, hm1, -⟩ := hin1
  cases he
  unfold maxLen at hm1
  by_cases hr0 : 1048576 < r0.length
  · clear hs hi
    obtain ⟨R0, hR0⟩ : ∃ R0, R0 = r0.length := ⟨_, rfl⟩
    obtain ⟨R1, hR1⟩ : ∃ R1, R1 = r1.length := ⟨_, rfl⟩
    rw [← hR0] at HI0 hm0 hr0 ⊢
    rw [← hR1] at HI1 hm1 ⊢
    clear hR0 hR1
    go_enter Try.func8, Try.ntmps8
    go_wp2
    go_ret
    exact ⟨rfl, Below.refl _ _⟩
  · by_cases hr1 : 1048576 < r1.length
    · clear hs hi
      obtain ⟨R0, hR0⟩ : ∃ R0, R0 = r0.length := ⟨_, rfl⟩
      obtain ⟨R1, hR1⟩ : ∃ R1, R1 = r1.length := ⟨_, rfl⟩
      rw [← hR0] at HI0 hm0 hr0 ⊢
      rw [← hR1] at HI1 hm1 hr1 ⊢
      clear hR0 hR1
      go_enter Try.func8, Try.ntmps8
      go_wp2
      go_ret
      exact ⟨rfl, Below.refl _ _⟩
    · have HS := hide hs; have HM := hide hi
      have HR0 : Hid (r0.length ≤ 2000000) := hide (by omega)
      have HR1 : Hid (r1.length ≤ 2000000) := hide (by omega)
      clear hs hi
      go_enter Try.func8, Try.ntmps8
      go_wp2_with fail
      refine (toIntS_any _ r0 _ HR0.out HI0.out).mono ?_
      rintro e w1 ⟨p0, rfl, ho, hb⟩
      have P0L := hide (fun k e => ho.lt k e); have P0_1 := hide ho; have HB1 := hide (hb); have s1 := hb.size; clear ho hb
      go_wp2_with fail
      refine (toIntS_any _ r1 _ HR1.out (inRow_below HI1.out HB1.out)).mono ?_
      rintro e w2 ⟨p1, rfl, ho, hb⟩
      have P0_2 := hide (own_below P0_1.out hb); have P1L := hide (fun k e => ho.lt k e); have P1_2 := hide ho; have HB2 := hide (HB1.out.trans (hb.mono HB1.out.size)); have s2 := hb.size; clear ho hb
      go_wp2_with fail
      refine (HS.out p0 p1 _ (rowC_own P0_2.out) (rowC_own P1_2.out)).mono ?_
      rintro e w3 ⟨u, rfl, ho, hb⟩
      have U_3 := hide ho; have HB3 := hide (HB2.out.trans (hb.mono HB2.out.size)); have s3 := hb.size; clear ho hb
      go_wp2_with fail
      refine (toIntS_any _ r0 _ HR0.out (inRow_below HI0.out HB3.out)).mono ?_
      rintro e w4 ⟨x0, rfl, ho, hb⟩
      have U_4 := hide (ownMat_below U_3.out hb); have X0L := hide (fun k e => ho.lt k e); have X0_4 := hide ho; have HB4 := hide (HB3.out.trans (hb.mono HB3.out.size)); have s4 := hb.size; clear ho hb
      go_wp2_with fail
      refine (toIntS_any _ r1 _ HR1.out (inRow_below HI1.out HB4.out)).mono ?_
      rintro e w5 ⟨x1, rfl, ho, hb⟩
      have U_5 := hide (ownMat_below U_4.out hb); have X0_5 := hide (own_below X0_4.out hb); have X1L := hide (fun k e => ho.lt k e); have X1_5 := hide ho; have HB5 := hide (HB4.out.trans (hb.mono HB4.out.size)); have s5 := hb.size; clear ho hb
      go_wp2_with fail
      refine (HM.out x0 x1 _ (rowC_own X0_5.out) (rowC_own X1_5.out)).mono ?_
      rintro e w6 ⟨g, rfl, ho, hb⟩
      have U_6 := hide (ownMat_below U_5.out hb); have X0_6 := hide (own_below X0_5.out hb); have X1_6 := hide (own_below X1_5.out hb); have G_6 := hide ho; have HB6 := hide (HB5.out.trans (hb.mono HB5.out.size)); have s6 := hb.size; clear ho hb
      go_wp2_with fail
      refine (eqIntSS_same g u rows _ (inMat_own G_6.out) (inMat_own U_6.out)).mono ?_
      rintro e w7 ⟨rfl, hb⟩
      have U_7 := hide (ownMat_below U_6.out hb); have X0_7 := hide (own_below X0_6.out hb); have X1_7 := hide (own_below X1_6.out hb); have G_7 := hide (ownMat_below G_6.out hb); have HB7 := hide (HB6.out.trans (hb.mono HB6.out.size)); have s7 := hb.size; clear hb
      go_wp2_with fail
      refine (toIntS_any _ r0 _ HR0.out (inRow_below HI0.out HB7.out)).mono ?_
      rintro e w8 ⟨z0, rfl, ho, hb⟩
      have U_8 := hide (ownMat_below U_7.out hb); have X0_8 := hide (own_below X0_7.out hb); have X1_8 := hide (own_below X1_7.out hb); have G_8 := hide (ownMat_below G_7.out hb); have Z0L := hide (fun k e => ho.lt k e); have Z0_8 := hide ho; have HB8 := hide (HB7.out.trans (hb.mono HB7.out.size)); have s8 := hb.size; clear ho hb
      go_wp2_with fail
      refine (eqIntS_same x0 z0 r0 _ (inRow_own X0_8.out) (inRow_own Z0_8.out)).mono ?_
      rintro e w9 ⟨rfl, hb⟩
      have U_9 := hide (ownMat_below U_8.out hb); have X0_9 := hide (own_below X0_8.out hb); have X1_9 := hide (own_below X1_8.out hb); have G_9 := hide (ownMat_below G_8.out hb); have HB9 := hide (HB8.out.trans (hb.mono HB8.out.size)); have s9 := hb.size; clear hb
      go_wp2_with fail
      refine (toIntS_any _ r1 _ HR1.out (inRow_below HI1.out HB9.out)).mono ?_
      rintro e w10 ⟨z1, rfl, ho, hb⟩
      have U_10 := hide (ownMat_below U_9.out hb); have X0_10 := hide (own_below X0_9.out hb); have X1_10 := hide (own_below X1_9.out hb); have G_10 := hide (ownMat_below G_9.out hb); have Z1L := hide (fun k e => ho.lt k e); have Z1_10 := hide ho; have HB10 := hide (HB9.out.trans (hb.mono HB9.out.size)); have s10 := hb.size; clear ho hb
      go_wp2_with fail
      refine (eqIntS_same x1 z1 r1 _ (inRow_own X1_10.out) (inRow_own Z1_10.out)).mono ?_
      rintro e w11 ⟨rfl, hb⟩
      have U_11 := hide (ownMat_below U_10.out hb); have X0_11 := hide (own_below X0_10.out hb); have X1_11 := hide (own_below X1_10.out hb); have G_11 := hide (ownMat_below G_10.out hb); have HB11 := hide (HB10.out.trans (hb.mono HB10.out.size)); have s11 := hb.size; clear hb
      go_wp2_with fail
      refine (markIntS_any r0.length 1 x0 _ _ _ (by have := HR0.out; omega) (by omega) X0_11.out).mono ?_
      rintro e w12 ⟨rfl, -, hg⟩; have hwi := within_grown (lo := w3.heap.size) (hi := w4.heap.size) hg (fun k e => X0L.out k e); clear hg
      have U_12 := hide (ownMat_within U_11.out hwi (by omega)); have X1_12 := hide (own_within X1_11.out hwi (fun k e => by have h1 := X1L.out k e; omega)); have G_12 := hide (ownMat_within G_11.out hwi (by omega)); have HB12 := hide (HB11.out.trans (below_within hwi (by omega) HB11.out.size)); have s12 := hwi.size; clear hwi
      go_wp2_with fail
      refine (markIntS_any r1.length (1 + r0.length) x1 _ _ _ (by have := HR1.out; omega) (by have := HR0.out; omega) X1_12.out).mono ?_
      rintro e w13 ⟨rfl, -, hg⟩; have hwi := within_grown (lo := w4.heap.size) (hi := w5.heap.size) hg (fun k e => X1L.out k e); clear hg
      have U_13 := hide (ownMat_within U_12.out hwi (by omega)); have G_13 := hide (ownMat_within G_12.out hwi (by omega)); have HB13 := hide (HB12.out.trans (below_within hwi (by omega) HB12.out.size)); have s13 := hwi.size; clear hwi
      go_wp2_with fail
      refine (eqIntSS_same g u rows _ (inMat_own G_13.out) (inMat_own U_13.out)).mono ?_
      rintro e w14 ⟨rfl, hb⟩
      have U_14 := hide (ownMat_below U_13.out hb); have G_14 := hide (ownMat_below G_13.out hb); have HB14 := hide (HB13.out.trans (hb.mono HB13.out.size)); have s14 := hb.size; clear hb
      go_wp2_with fail
      refine (markIntSS_any rows 1 _ _ g _ (by omega) (by omega) G_14.out).mono ?_
      rintro e w15 ⟨rfl, ho, hwi⟩
      have U_15 := hide (ownMat_within U_14.out hwi (by omega)); have HB15 := hide (HB14.out.trans (below_within hwi (by omega) HB14.out.size)); have s15 := hwi.size; clear hwi
      have M_15 := hide (inMat_own ho); clear ho
      go_wp2_with fail
      refine (heldIntSS_any rows 1 g _ (by omega) (by omega) M_15.out).mono ?_
      rintro e w16 ⟨rfl, hb⟩
      have U_16 := hide (ownMat_below U_15.out hb); have M_16 := hide (inMat_below M_15.out hb); have HB16 := hide (HB15.out.trans (hb.mono HB15.out.size)); have s16 := hb.size; clear hb
      go_wp2_with fail
      refine (toIntS_any _ r0 _ HR0.out (inRow_below HI0.out HB16.out)).mono ?_
      rintro e w17 ⟨y0, rfl, ho, hb⟩
      have U_17 := hide (ownMat_below U_16.out hb); have M_17 := hide (inMat_below M_16.out hb); have Y0L := hide (fun k e => ho.lt k e); have Y0_17 := hide ho; have HB17 := hide (HB16.out.trans (hb.mono HB16.out.size)); have s17 := hb.size; clear ho hb
      go_wp2_with fail
      refine (toIntS_any _ r1 _ HR1.out (inRow_below HI1.out HB17.out)).mono ?_
      rintro e w18 ⟨y1, rfl, ho, hb⟩
      have U_18 := hide (ownMat_below U_17.out hb); have M_18 := hide (inMat_below M_17.out hb); have Y0_18 := hide (own_below Y0_17.out hb); have Y1L := hide (fun k e => ho.lt k e); have Y1_18 := hide ho; have HB18 := hide (HB17.out.trans (hb.mono HB17.out.size)); have s18 := hb.size; clear ho hb
      go_wp2_with fail
      refine (HM.out y0 y1 _ (rowC_own Y0_18.out) (rowC_own Y1_18.out)).mono ?_
      rintro e w19 ⟨h, rfl, ho, hb⟩
      have U_19 := hide (ownMat_below U_18.out hb); have M_19 := hide (inMat_below M_18.out hb); have H_19 := hide ho; have HB19 := hide (HB18.out.trans (hb.mono HB18.out.size)); have s19 := hb.size; clear ho hb
      go_wp2_with fail
      refine (eqIntSS_same h u rows _ (inMat_own H_19.out) (inMat_own U_19.out)).mono ?_
      rintro e w20 ⟨rfl, hb⟩
      have U_20 := hide (ownMat_below U_19.out hb); have M_20 := hide (inMat_below M_19.out hb); have H_20 := hide (ownMat_below H_19.out hb); have HB20 := hide (HB19.out.trans (hb.mono HB19.out.size)); have s20 := hb.size; clear hb
      go_wp2_with fail
      refine (heldIntSS_any rows 1 g _ (by omega) (by omega) M_20.out).mono ?_
      rintro e w21 ⟨rfl, hb⟩
      have M_21 := hide (inMat_below M_20.out hb); have HB21 := hide (HB20.out.trans (hb.mono HB20.out.size)); have s21 := hb.size; clear hb
      go_wp2
      go_ret
      exact ⟨rfl, HB21.out⟩
theorem lawFixedCells_walk (a : Option Addr) (n c : Nat) (r : List Int) (b : Option Addr) (k d : Nat) (s : List Int) (w : World) (hin : InRow w (.slice a n c) r) (hin2 : InRow w (.slice b k d) s) :
    Calls Try.prog 8 #[.slice a n c, .slice b k d] w fun e w' => e = .returned (.bool true) ∧ Below w.heap.size w w' := by
  refine lawFixedCells_gen a n c r b k d s w hin hin2 (fixedIm r s) ?_ (fun v u w hv hu => specFixed_any v u r s w hv hu) (fun v u w hv hu => implFixed_any v u r s w hv hu)
  unfold fixedIm
  cases h : existsOf r s with
  | true =>
    obtain ⟨hr, hc, -⟩ := sumsOk_yes (existsOf_sums h)
    rw [if_pos rfl]
    refine rows_small (by rw [mkM_len]; exact hr.2) fun q hq => ?_
    obtain ⟨y, hy, rfl⟩ := List.getElem_of_mem hq
    rw [mkM_at, rowF_len]; exact hc.2
  | false => rw [if_neg (by decide)]; decide
end Go.Proofs.Ytpfaaglaeholbaa
