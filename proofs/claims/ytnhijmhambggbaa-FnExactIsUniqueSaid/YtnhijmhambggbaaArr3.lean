/-
  The program's images: inverted, distance, mirrored.
-/
import Derived.Test.YtnhijmhambggbaaArr2
namespace Go.Proofs.Ytnhijmhambggbaa
open Go.RowKit

def invN (v : Int) : Int := if v = -1 then -1 else 1 - v
def upI (F : Nat → Int) (k : Nat) (i : Nat) : Int := if i < k then invN (F i) else F i
theorem upI_zero (F : Nat → Int) : upI F 0 = F := by funext i; simp [upI]
theorem upI_set (F : Nat → Int) (k : Nat) (v : Int) (h : invN (F k) = v) : (fun j => if j = k then v else upI F k j) = upI F (k + 1) := by
  funext j
  simp only [upI]
  by_cases e : j = k
  · subst e; simp [h]
  · rw [if_neg e]
    by_cases hl : j < k
    · rw [if_pos hl, if_pos (by omega)]
    · rw [if_neg hl, if_neg (by omega)]
theorem upI_skip (F : Nat → Int) (k : Nat) (h : F k = -1) : upI F k = upI F (k + 1) := by
  funext j
  simp only [upI]
  by_cases hl : j < k
  · rw [if_pos hl, if_pos (by omega)]
  · by_cases e : j = k
    · subst e; simp [h, invN]
    · rw [if_neg hl, if_neg (by omega)]
theorem upI_all (F : Nat → Int) : ∀ i, i < 25 → upI F (5 * 5) i = invN (F i) := fun i hi => by rw [upI, if_pos (by omega)]

/-- What distance answers: the number, and whether the sizes are the same. -/
def DistRes (b : Bool) (n : Nat) (w : World) (e : Ending) (w' : World) : Prop := e = .returned (.tuple #[.int .i64 (if b then n else 0 : Nat), .bool b]) ∧ Below w.heap.size w w'
theorem dist_no {b : Bool} {n : Nat} {w : World} {w' : World} (hb : b = false) (h : Below w.heap.size w w') : DistRes b n w (.returned (.tuple #[.int .i64 0, .bool false])) w' := by subst hb; exact ⟨rfl, h⟩
set_option maxHeartbeats 1000000 in
theorem distance_any (F G : Nat → Int) (b : Bool) (w : World) (hb : b = true ↔ ∀ i, i < 25 → (F i = -1 ↔ G i = -1)) :
    Calls Try.prog 80 #[.agg (vec 25 F), .agg (vec 25 G)] w (DistRes b (cnt (fun i => F i != G i) 25) w) := by
  obtain ⟨p, hp⟩ : ∃ p : Nat → Bool, p = fun i => F i != G i := ⟨_, rfl⟩
  have hpp : Hid (∀ i, p i = (F i != G i)) := hide fun i => by rw [hp]
  rw [← hp]
  clear hp
  have HH := hide hb
  clear hb
  go_enter Try.func80, Try.ntmps80
  go_wp2_with (first | (with_reducible refine wpList_boxVec 25 F 2 rfl rfl (.tmp 0) rfl rfl ?_; intro w1 h1 b1 s1) | (with_reducible refine wpList_boxVec 25 G 3 rfl rfl (.tmp 1) rfl rfl ?_; intro wa ha ba sa) | (with_reducible refine wpList_loadVec (blk_below h1 ba) 11 rfl rfl _ rfl rfl Try.underlying88 Try.sizeImg ?_))
  have B1 := hide (b1.trans (ba.mono (by omega)))
  have HP := hide ha
  rw [s1] at HP
  clear h1 b1 ha ba s1 sa
  go_loopw [6, 12] (fun n i w' => ∃ y : Nat, y ≤ 5 ∧ i = .int .i64 y ∧ n = .int .i64 (cnt p (5 * y)) ∧ (∀ i, i < 5 * y → (F i = -1 ↔ G i = -1)) ∧ Blk w' (w.heap.size + 1) 88 25 G ∧ Below w.heap.size w w') (fun _ i _ => 5 - (intOf i).toNat)
  case atStart => exact ⟨0, by omega, rfl, rfl, fun i h => absurd h (Nat.not_lt_zero _), HP.out, B1.out⟩
  case round =>
    clear B1 HP
    obtain ⟨y, hy, rfl, rfl, hall, hp, hb⟩ := hrel
    have HP := hide hp; have HB := hide hb; have HL := hide hall
    clear hp hb hall
    by_cases hlt : y < 5
    · have hyI : (y : Int) < 5 := by omega
      go_wp2_with (first | (with_reducible refine wpList_indexRow y 15 rfl rfl _ _ rfl rfl rfl Try.underlying88 Try.isAgg86 Try.sizeOf86 hlt (by omega) ?_) | (with_reducible refine wpList_allocVec 5 8 rfl rfl rfl Try.zeroRow ?_; intro w2 h2 b2 s2) | (with_reducible refine wpList_storeVec h2 rfl (.tmp 8) (.tmp 15) rfl rfl rfl Try.sizeRow ?_; intro w3 h3 g3 s3) | (with_reducible refine wpList_loadVec h3 16 rfl rfl _ rfl rfl Try.underlying86 Try.sizeRow ?_))
      have B3 := hide (row_below HB.out b2 g3)
      have P3 := hide (row_blk HP.out b2 g3)
      clear h2 b2 s2 h3 g3 s3
      go_loopw [6, 17] (fun n i w' => ∃ x : Nat, x ≤ 5 ∧ i = .int .i64 x ∧ n = .int .i64 (cnt p (5 * y + x)) ∧ (∀ i, i < 5 * y + x → (F i = -1 ↔ G i = -1)) ∧ Blk w' (w.heap.size + 1) 88 25 G ∧ Below w.heap.size w w') (fun _ i _ => 5 - (intOf i).toNat)
      case atStart => exact ⟨0, by omega, rfl, rfl, HL.out, P3.out, B3.out⟩
      case round =>
        clear B3 P3 HB HP HL
        obtain ⟨x, hx, rfl, rfl, hall, hp, hb⟩ := hrel
        have HP := hide hp; have HB := hide hb; have HL := hide hall
        clear hp hb hall
        have hle := cnt_le p (5 * y + x)
        by_cases hlx : x < 5
        · have hxI : (x : Int) < 5 := by omega
          have hcl := blk_cell HP.out (5 * y + x) (by omega)
          have HA : Hid (0 + y * 5 + x * 1 = 5 * y + x) := hide (by omega)
          have HE : Hid (y * 5 + x = 5 * y + x) := hide (by omega)
          have HQ := hide (hpp.out (5 * y + x))
          have HN : (F (5 * y + x) = -1 ↔ G (5 * y + x) = -1) → ∀ i, i < 5 * y + (x + 1) → (F i = -1 ↔ G i = -1) := fun h i hi => by
            by_cases e : i = 5 * y + x
            · subst e; exact h
            · exact HL.out i (by omega)
          have HN := hide HN
          have HF0 : Hid (¬ (F (5 * y + x) = -1 ↔ G (5 * y + x) = -1) → b = false) := hide fun h => by
            cases hbb : b with
            | false => rfl
            | true => exact absurd (HH.out.1 hbb (5 * y + x) (by omega)) h
          obtain ⟨s, hs⟩ : ∃ s, s = F (5 * y + x) := ⟨_, rfl⟩
          obtain ⟨t, ht⟩ : ∃ t, t = G (5 * y + x) := ⟨_, rfl⟩
          have HSV := hide hs.symm
          rw [← hs, ← ht] at HQ HN HF0
          rw [← ht] at hcl
          clear hs ht
          by_cases hs1 : s = -1
          · have q1 : (s == -1) = true := by simpa using hs1
            by_cases ht1 : t = -1
            · have q2 : (t == -1) = true := by simpa using ht1
              have HST : Hid (s = t) := hide (by rw [hs1, ht1])
              have q3 : (s != t) = false := by simp [hs1, ht1]
              have HC := hide (cnt_no (p := p) (k := 5 * y + x) (by rw [HQ.out]; exact q3))
              have HN2 := hide (HN.out ⟨fun _ => ht1, fun _ => hs1⟩)
              subst hs1 ht1
              clear q1 q2 q3
              go_wp2_with (first | (with_reducible refine wpList_indexVec x 20 rfl rfl _ _ rfl rfl rfl Try.underlying86 Try.isAgg3 Try.sizeOf3 hlx ?_; rw [HE.out, HSV.out]) | (with_reducible refine wpList_indexAt y 25 rfl rfl _ _ rfl rfl rfl Try.underlying88 Try.sizeOf86 hlt ?_) | (with_reducible refine wpList_indexAt x 26 rfl rfl _ _ rfl rfl rfl Try.underlying86 Try.sizeOf3 hlx ?_; rw [HA.out]) | (with_reducible refine wpList_indexAt y 33 rfl rfl _ _ rfl rfl rfl Try.underlying88 Try.sizeOf86 hlt ?_) | (with_reducible refine wpList_indexAt x 34 rfl rfl _ _ rfl rfl rfl Try.underlying86 Try.sizeOf3 hlx ?_; rw [HA.out]))
              go_roundw
              case rel => exact ⟨x + 1, by omega, by go_num, by rw [← Nat.add_assoc, HC.out], HN2.out, HP.out, HB.out⟩
              case measure => simp [intOf]; omega
            · have q2 : (t == -1) = false := by simpa using ht1
              have HB0 := hide (HF0.out (fun h => ht1 (h.1 hs1)))
              subst hs1
              clear q1 ht1
              go_wp2_with (first | (with_reducible refine wpList_indexVec x 20 rfl rfl _ _ rfl rfl rfl Try.underlying86 Try.isAgg3 Try.sizeOf3 hlx ?_; rw [HE.out, HSV.out]) | (with_reducible refine wpList_indexAt y 25 rfl rfl _ _ rfl rfl rfl Try.underlying88 Try.sizeOf86 hlt ?_) | (with_reducible refine wpList_indexAt x 26 rfl rfl _ _ rfl rfl rfl Try.underlying86 Try.sizeOf3 hlx ?_; rw [HA.out]) | (with_reducible refine wpList_indexAt y 33 rfl rfl _ _ rfl rfl rfl Try.underlying88 Try.sizeOf86 hlt ?_) | (with_reducible refine wpList_indexAt x 34 rfl rfl _ _ rfl rfl rfl Try.underlying86 Try.sizeOf3 hlx ?_; rw [HA.out]))
              go_ret2
              exact dist_no HB0.out HB.out
          · have q1 : (s == -1) = false := by simpa using hs1
            by_cases ht1 : t = -1
            · have HB0 := hide (HF0.out (fun h => hs1 (h.2 ht1)))
              subst ht1
              clear hs1
              go_wp2_with (first | (with_reducible refine wpList_indexVec x 20 rfl rfl _ _ rfl rfl rfl Try.underlying86 Try.isAgg3 Try.sizeOf3 hlx ?_; rw [HE.out, HSV.out]) | (with_reducible refine wpList_indexAt y 25 rfl rfl _ _ rfl rfl rfl Try.underlying88 Try.sizeOf86 hlt ?_) | (with_reducible refine wpList_indexAt x 26 rfl rfl _ _ rfl rfl rfl Try.underlying86 Try.sizeOf3 hlx ?_; rw [HA.out]) | (with_reducible refine wpList_indexAt y 33 rfl rfl _ _ rfl rfl rfl Try.underlying88 Try.sizeOf86 hlt ?_) | (with_reducible refine wpList_indexAt x 34 rfl rfl _ _ rfl rfl rfl Try.underlying86 Try.sizeOf3 hlx ?_; rw [HA.out]))
              go_ret2
              exact dist_no HB0.out HB.out
            · have q2 : (t == -1) = false := by simpa using ht1
              have HN2 := hide (HN.out ⟨fun h => absurd h hs1, fun h => absurd h ht1⟩)
              clear hs1 ht1
              by_cases hst : s = t
              · subst hst
                have HC := hide (cnt_no (p := p) (k := 5 * y + x) (by rw [HQ.out]; simp))
                go_wp2_with (first | (with_reducible refine wpList_indexVec x 20 rfl rfl _ _ rfl rfl rfl Try.underlying86 Try.isAgg3 Try.sizeOf3 hlx ?_; rw [HE.out, HSV.out]) | (with_reducible refine wpList_indexAt y 25 rfl rfl _ _ rfl rfl rfl Try.underlying88 Try.sizeOf86 hlt ?_) | (with_reducible refine wpList_indexAt x 26 rfl rfl _ _ rfl rfl rfl Try.underlying86 Try.sizeOf3 hlx ?_; rw [HA.out]) | (with_reducible refine wpList_indexAt y 33 rfl rfl _ _ rfl rfl rfl Try.underlying88 Try.sizeOf86 hlt ?_) | (with_reducible refine wpList_indexAt x 34 rfl rfl _ _ rfl rfl rfl Try.underlying86 Try.sizeOf3 hlx ?_; rw [HA.out]))
                go_roundw
                case rel => exact ⟨x + 1, by omega, by go_num, by rw [← Nat.add_assoc, HC.out], HN2.out, HP.out, HB.out⟩
                case measure => simp [intOf]; omega
              · have q3 : (s != t) = true := by simpa using hst
                have HC := hide (cnt_yes (p := p) (k := 5 * y + x) (by rw [HQ.out]; exact q3))
                clear hst
                go_wp2_with (first | (with_reducible refine wpList_indexVec x 20 rfl rfl _ _ rfl rfl rfl Try.underlying86 Try.isAgg3 Try.sizeOf3 hlx ?_; rw [HE.out, HSV.out]) | (with_reducible refine wpList_indexAt y 25 rfl rfl _ _ rfl rfl rfl Try.underlying88 Try.sizeOf86 hlt ?_) | (with_reducible refine wpList_indexAt x 26 rfl rfl _ _ rfl rfl rfl Try.underlying86 Try.sizeOf3 hlx ?_; rw [HA.out]) | (with_reducible refine wpList_indexAt y 33 rfl rfl _ _ rfl rfl rfl Try.underlying88 Try.sizeOf86 hlt ?_) | (with_reducible refine wpList_indexAt x 34 rfl rfl _ _ rfl rfl rfl Try.underlying86 Try.sizeOf3 hlx ?_; rw [HA.out]))
                go_roundw
                case rel => exact ⟨x + 1, by omega, by go_num, by rw [← Nat.add_assoc, HC.out]; go_num, HN2.out, HP.out, HB.out⟩
                case measure => simp [intOf]; omega
        · obtain rfl : x = 5 := by omega
          go_wp2
          go_roundw
          case rel => exact ⟨y + 1, by omega, by go_num, by rw [show 5 * (y + 1) = 5 * y + 5 by omega], HL.out, HP.out, HB.out⟩
          case measure => simp [intOf]; omega
    · obtain rfl : y = 5 := by omega
      have hbt : b = true := HH.out.2 HL.out
      subst hbt
      go_wp2
      go_ret2
      exact ⟨rfl, HB.out⟩

/-- Numbers put over others, from place o on. -/
def overF (F : Nat → Int) (o : Nat) (r : List Int) (j : Nat) : Int := if o ≤ j ∧ j < o + r.length then r.getD (j - o) 0 else F j
theorem blk_setCells {g n : Nat} {T : TypeId} : ∀ (r : List Int) (o : Nat) (w : World) (F : Nat → Int), Blk w g T n F → Blk (w.setCells g o (ints r)) g T n (overF F o r) ∧ w.grownBy (w.setCells g o (ints r)) (some g) ∧ (w.setCells g o (ints r)).heap.size = w.heap.size
  | [], o, w, F, h => ⟨blk_congr h fun i _ => by simp only [overF, List.length_nil]; rw [if_neg (by omega)], ⟨rfl, rfl, rfl, Nat.le_refl _, fun _ _ _ => rfl⟩, rfl⟩
  | x :: r, o, w, F, h => by
    have h1 := blk_set h o x
    obtain ⟨h2, h3, h4⟩ := blk_setCells r (o + 1) _ _ h1
    refine ⟨blk_congr h2 fun i _ => ?_, ?_, ?_⟩
    · simp only [overF, List.length_cons]
      by_cases e : i = o
      · subst e; rw [if_neg (by omega), if_pos rfl, if_pos (by omega), Nat.sub_self]; rfl
      · by_cases hl : o + 1 ≤ i ∧ i < o + 1 + r.length
        · rw [if_pos hl, if_pos (by omega), show i - o = (i - (o + 1)) + 1 by omega]; rfl
        · rw [if_neg hl, if_neg e, if_neg (by omega)]
    · refine grown_trans (b := w.setCell ⟨g, o, none⟩ (.int .i64 x)) ⟨rfl, rfl, rfl, by simp [World.setCell], fun k _ hr => heap_setCell_other w _ k _ fun e => hr (by rw [e])⟩ h3
    · show ((w.setCell ⟨g, o, none⟩ (.int .i64 x)).setCells g (o + 1) (ints r)).heap.size = w.heap.size
      rw [h4]; simp [World.setCell]
theorem vec_ints (n : Nat) (F : Nat → Int) : vecL n F = ints (rowF n F) := by simp [vecL, ints, rowF]

/-- A row goes into the middle of a variable. -/
theorem wpList_storeMid {P : Program} {ops : Array Oper} {rest : List Oper} {o : Oper} {a : Act} {Q : Exit → Act → World → Prop} {W : World} {g b n s : Nat} {T T' : TypeId} {F G : Nat → Int} (hb : Blk W g T n F)
    (hgd : o.guard = none) (x y : Operand) (ho : o.op = .store T' x y) (hx : a.eval x = .pointer (some ⟨g, b, none⟩)) (hy : a.eval y = .agg (vec s G)) (hi : (P.info? T').map (·.size) = some s) (hn : b + s ≤ n)
    (h : ∀ w', Blk w' g T n (fun j => if b ≤ j ∧ j < b + s then G (j - b) else F j) → W.grownBy w' (some g) → w'.heap.size = W.heap.size → wpList P ops Q rest (a.put o.dst undef) w') : wpList P ops Q (o :: rest) a W := by
  refine wpList_store_mid hgd T' x y ho g b (vec s G) hx hy (fun j hj => ?_) (by rw [hi, vec_size]) (vec_one s G) ?_
  · rw [vec_size] at hj
    exact ⟨by rw [blk_cell hb (b + j) (by omega)]; rfl, blk_frozen hb _⟩
  · have e : (vec s G).toList = ints (rowF s G) := by rw [← vec_ints]; rfl
    obtain ⟨h1, h2, h3⟩ := blk_setCells (rowF s G) b W F hb
    rw [e]
    refine h _ (blk_congr h1 fun i _ => ?_) h2 h3
    simp only [overF, rowF_len]
    by_cases hl : b ≤ i ∧ i < b + s
    · rw [if_pos hl, if_pos hl, List.getD_eq_getElem?_getD, List.getElem?_eq_getElem (by rw [rowF_len]; omega), Option.getD_some, rowF_at]
    · rw [if_neg hl, if_neg hl]

def mirR (n : Nat) (G : Nat → Int) (j : Nat) : Int := if j < n then G (n - 1 - j) else G j
end Go.Proofs.Ytnhijmhambggbaa
