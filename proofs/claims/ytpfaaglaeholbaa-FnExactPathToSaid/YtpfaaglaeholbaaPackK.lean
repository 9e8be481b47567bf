/-
  Texts of this claim, one behind the other: Rev, Arr3, Arr4, Impl, SpecI, SpecT, ColS, Eq, Same, Put, Dist.
-/
import Derived.Test.YtpfaaglaeholbaaPackJ
import Derived.RegionTactic
import Derived.BigRegion
import Derived.Deep.LoopGhost
import Derived.Test.YtpfaaglaeholbaaPackH
import Derived.Test.YtpfaaglaeholbaaPackF
import Derived.Test.YtpfaaglaeholbaaPackB
/-
  slices.Reverse at switches.
-/
namespace Go.Proofs.Ytpfaaglaeholbaa
open Go.RowKit
set_option maxRecDepth 100000

theorem grown_drewR {w w' : World} {row : Option Nat} (h : w.grownBy w' row) : w.grownBy w'.drew row := ⟨h.os, h.tape, h.output, h.size, h.block⟩
/-- Turned round from both ends, k places in. -/
def revF (l : List Sw) (k : Nat) : List Sw := (List.range l.length).map fun t => if t < k ∨ l.length ≤ t + k then l.getD (l.length - 1 - t) zeroSw else l.getD t zeroSw
theorem revF_len (l : List Sw) (k : Nat) : (revF l k).length = l.length := by simp [revF]
theorem revF_at (l : List Sw) (k t : Nat) (h : t < (revF l k).length) : (revF l k)[t] = if t < k ∨ l.length ≤ t + k then l.getD (l.length - 1 - t) zeroSw else l.getD t zeroSw := by simp [revF]
theorem revF_zero (l : List Sw) : revF l 0 = l := by
  refine List.ext_getElem (revF_len l 0) fun t h1 h2 => ?_
  rw [revF_at, if_neg (by omega), List.getD_eq_getElem?_getD, List.getElem?_eq_getElem h2]; rfl
theorem revF_end {l : List Sw} {k : Nat} (h : l.length ≤ 2 * k + 1) : revF l k = l.reverse := by
  refine List.ext_getElem (by rw [revF_len]; simp) fun t h1 h2 => ?_
  have ht : t < l.length := by simpa using h2
  rw [revF_at, List.getElem_reverse]
  by_cases e : t < k ∨ l.length ≤ t + k
  · rw [if_pos e, List.getD_eq_getElem?_getD, List.getElem?_eq_getElem (by omega)]; rfl
  · rw [if_neg e, List.getD_eq_getElem?_getD, List.getElem?_eq_getElem (by omega), Option.getD_some]
    congr 1; omega
theorem revF_step {l : List Sw} {k q : Nat} (h : k + q + 1 = l.length) (hkq : k < q) : ((revF l k).set k (l.getD q zeroSw)).set q (l.getD k zeroSw) = revF l (k + 1) := by
  refine List.ext_getElem (by simp [revF_len]) fun t h1 h2 => ?_
  have ht : t < l.length := by rw [revF_len] at h2; exact h2
  rw [List.getElem_set, List.getElem_set, revF_at, revF_at]
  by_cases e1 : q = t
  · subst e1
    rw [if_pos rfl, if_pos (by omega), show l.length - 1 - q = k by omega]
  · rw [if_neg e1]
    by_cases e2 : k = t
    · subst e2
      rw [if_pos rfl, if_pos (by omega), show l.length - 1 - k = q by omega]
    · rw [if_neg e2]
      by_cases e : t < k ∨ l.length ≤ t + k
      · rw [if_pos e, if_pos (by omega)]
      · rw [if_neg e, if_neg (by omega)]
theorem cellsS_set : ∀ (l : List Sw) (k : Nat) (s : Sw), k < l.length → cellsS (l.set k s) = set4 (cellsS l) (k * 4) s
  | [], k, s, h => by simp at h
  | x :: l, 0, s, _ => by simp [cellsS, set4]
  | x :: l, k + 1, s, h => by
    have ih := cellsS_set l k s (by simpa using h)
    have e1 : ∀ l : List Sw, cellsS (x :: l) = .int .i64 x.y1 :: .int .i64 x.y2 :: .int .i64 x.x1 :: .int .i64 x.x2 :: cellsS l := fun l => by simp [cellsS]
    rw [List.set_cons_succ, e1, ih, e1]
    unfold set4
    rw [show (k + 1) * 4 = k * 4 + 1 + 1 + 1 + 1 by omega, show k * 4 + 1 + 1 + 1 + 1 + 1 = (k * 4 + 1) + 1 + 1 + 1 + 1 by omega, show k * 4 + 1 + 1 + 1 + 1 + 2 = (k * 4 + 2) + 1 + 1 + 1 + 1 by omega, show k * 4 + 1 + 1 + 1 + 1 + 3 = (k * 4 + 3) + 1 + 1 + 1 + 1 by omega]
    simp only [List.set_cons_succ]
theorem revF_q (l : List Sw) {k q : Nat} (h : k + q + 1 = l.length) (hkq : k < q) : (revF l k).getD k zeroSw = l.getD k zeroSw ∧ (revF l k).getD q zeroSw = l.getD q zeroSw := by
  have h1 : k < (revF l k).length := by rw [revF_len]; omega
  have h2 : q < (revF l k).length := by rw [revF_len]; omega
  rw [List.getD_eq_getElem?_getD, List.getD_eq_getElem?_getD (l := revF l k), List.getElem?_eq_getElem h1, List.getElem?_eq_getElem h2, Option.getD_some, Option.getD_some, revF_at, revF_at, if_neg (by omega), if_neg (by omega)]
  exact ⟨rfl, rfl⟩
set_option maxHeartbeats 4000000 in
theorem reverse_any : RevAt := by
  intro v l lo w h hl
  have HL := hide hl
  obtain ⟨al, c, rfl⟩ := ownA_slice h
  have HO := hide h
  have HGR := hide (⟨rfl, rfl, rfl, Nat.le_refl _, fun _ _ _ => rfl⟩ : w.grownBy w (Value.slice al l.length c).ownBlock)
  obtain ⟨n, hn⟩ : ∃ n, n = l.length := ⟨_, rfl⟩
  have HN := hide hn
  rw [← hn] at hl HGR ⊢
  rw [← hn] at HO
  clear h hn
  go_enter Try.func89, Try.ntmps89
  go_wp2
  have HWR : Hid (IntKind.i64.wrap ((n : Int) - 1) = (n : Int) - 1) := hide (IntWalk.i64_in _ (by omega))
  go_loopg [2, 3] n (fun g i j w' => ∃ k : Nat, k + g = n ∧ 2 * k ≤ n + 1 ∧ i = .int .i64 k ∧ j = .int .i64 ((n : Int) - 1 - k) ∧ OwnSws w' lo (.slice al n c) (revF l k) ∧ w.grownBy w' (Value.slice al n c).ownBlock)
  case atStart => exact ⟨0, by omega, by omega, rfl, by go_num, by rw [revF_zero]; exact HO.out, HGR.out⟩
  case round =>
    clear HO HGR
    obtain ⟨k, hkg, hk2, rfl, rfl, ho, hg⟩ := hrel
    have HO := hide ho; have HG := hide hg
    by_cases hlt : 2 * k + 1 < n
    · obtain ⟨g, rfl⟩ : ∃ g, gk = g + 1 := ⟨gk - 1, by omega⟩
      obtain ⟨q, hq⟩ : ∃ q, k + q + 1 = n := ⟨n - 1 - k, by omega⟩
      have hqI : (n : Int) - 1 - k = q := by omega
      have hkq : (k : Int) < q := by omega
      have hkn : k < n := by omega
      have hqn : q < n := by omega
      have hknI : (k : Int) < n := by omega
      have hqnI : (q : Int) < n := by omega
      have hlk : k < (revF l k).length := by rw [revF_len, ← HN.out]; omega
      have hlq : q < (revF l k).length := by rw [revF_len, ← HN.out]; omega
      obtain ⟨gv, c2, e, -⟩ := ownA_some ho (by rw [revF_len, ← HN.out]; omega)
      obtain rfl : al = some ⟨gv, 0, none⟩ := by injection e
      have HRL : Hid ((revF l k).length = n) := hide (by rw [revF_len, ← HN.out])
      clear e
      obtain ⟨r1, r2⟩ := revF_q l (k := k) (q := q) (by rw [← HN.out]; exact hq) (by omega)
      have hsk := sws_cell ho k hlk
      have hsq := sws_cell ho q hlq
      rw [r1] at hsk; rw [r2] at hsq
      obtain ⟨s, hs⟩ : ∃ s, s = l.getD k zeroSw := ⟨_, rfl⟩
      obtain ⟨u, hu⟩ : ∃ u, u = l.getD q zeroSw := ⟨_, rfl⟩
      have HS := hide hs; have HU := hide hu
      rw [← hs] at hsk; rw [← hu] at hsq
      obtain ⟨c0, c1, c2', c3⟩ := hsk
      obtain ⟨d0, d1, d2, d3⟩ := hsq
      have hor : wr.ownsRow lo 32 4 (.slice (some ⟨gv, 0, none⟩) n c) n (cellsS (revF l k)) := by have := ho; unfold OwnSws at this; rw [HRL.out] at this; exact this
      have HOR := hide hor
      have hfr : ∀ i, wr.frozen? ⟨gv, i, none⟩ = false := fun i => hor.frozenAt i
      rw [hqI]
      clear hs hu ho hor hg r1 r2 hlk hlq c2
      go_wp2
      go_region
      obtain ⟨a1, b1⟩ := HOR.out.stored (k * 4) (.int .i64 u.y1)
      obtain ⟨a2, b2⟩ := a1.stored (k * 4 + 1) (.int .i64 u.y2)
      obtain ⟨a3, b3⟩ := a2.stored (k * 4 + 2) (.int .i64 u.x1)
      obtain ⟨a4, b4⟩ := a3.stored (k * 4 + 3) (.int .i64 u.x2)
      obtain ⟨a5, b5⟩ := a4.stored (q * 4) (.int .i64 s.y1)
      obtain ⟨a6, b6⟩ := a5.stored (q * 4 + 1) (.int .i64 s.y2)
      obtain ⟨a7, b7⟩ := a6.stored (q * 4 + 2) (.int .i64 s.x1)
      obtain ⟨a8, b8⟩ := a7.stored (q * 4 + 3) (.int .i64 s.x2)
      have HW : ((((((((wr.setCell ⟨gv, k * 4, none⟩ (.int .i64 u.y1)).setCell ⟨gv, k * 4 + 1, none⟩ (.int .i64 u.y2)).setCell ⟨gv, k * 4 + 2, none⟩ (.int .i64 u.x1)).setCell ⟨gv, k * 4 + 3, none⟩ (.int .i64 u.x2)).setCell ⟨gv, q * 4, none⟩ (.int .i64 s.y1)).setCell ⟨gv, q * 4 + 1, none⟩ (.int .i64 s.y2)).setCell ⟨gv, q * 4 + 2, none⟩ (.int .i64 s.x1)).setCell ⟨gv, q * 4 + 3, none⟩ (.int .i64 s.x2)).drew.ownsRow lo 32 4 (.slice (some ⟨gv, 0, none⟩) n c) n (set4 (set4 (cellsS (revF l k)) (k * 4) u) (q * 4) s) := ownA_below a8 (below_drew (Below.refl _ _))
      have HGW : wr.grownBy ((((((((wr.setCell ⟨gv, k * 4, none⟩ (.int .i64 u.y1)).setCell ⟨gv, k * 4 + 1, none⟩ (.int .i64 u.y2)).setCell ⟨gv, k * 4 + 2, none⟩ (.int .i64 u.x1)).setCell ⟨gv, k * 4 + 3, none⟩ (.int .i64 u.x2)).setCell ⟨gv, q * 4, none⟩ (.int .i64 s.y1)).setCell ⟨gv, q * 4 + 1, none⟩ (.int .i64 s.y2)).setCell ⟨gv, q * 4 + 2, none⟩ (.int .i64 s.x1)).setCell ⟨gv, q * 4 + 3, none⟩ (.int .i64 s.x2)).drew (some gv) := grown_drewR (grown_trans (grown_trans (grown_trans (grown_trans (grown_trans (grown_trans (grown_trans b1 b2) b3) b4) b5) b6) b7) b8)
      clear a1 a2 a3 a4 a5 a6 a7 a8 b1 b2 b3 b4 b5 b6 b7 b8
      generalize ((((((((wr.setCell ⟨gv, k * 4, none⟩ (.int .i64 u.y1)).setCell ⟨gv, k * 4 + 1, none⟩ (.int .i64 u.y2)).setCell ⟨gv, k * 4 + 2, none⟩ (.int .i64 u.x1)).setCell ⟨gv, k * 4 + 3, none⟩ (.int .i64 u.x2)).setCell ⟨gv, q * 4, none⟩ (.int .i64 s.y1)).setCell ⟨gv, q * 4 + 1, none⟩ (.int .i64 s.y2)).setCell ⟨gv, q * 4 + 2, none⟩ (.int .i64 s.x1)).setCell ⟨gv, q * 4 + 3, none⟩ (.int .i64 s.x2)).drew = w9 at HW HGW ⊢
      have E1 : Hid (OwnSws w9 lo (.slice (some ⟨gv, 0, none⟩) n c) (revF l (k + 1))) := hide (by
        unfold OwnSws
        rw [← revF_step (l := l) (k := k) (q := q) (by rw [← HN.out]; exact hq) (by omega), cellsS_set _ _ _ (by rw [List.length_set, revF_len, ← HN.out]; exact hqn), cellsS_set _ _ _ (by rw [revF_len, ← HN.out]; exact hkn), ← HS.out, ← HU.out, List.length_set, List.length_set, revF_len, ← HN.out]
        exact HW)
      have E2 := hide (grown_trans HG.out HGW)
      clear HW HGW
      go_wp2
      go_roundg g
      case measure => exact Nat.lt_succ_self g
      case rel => exact ⟨k + 1, by omega, by omega, by go_num, by go_num, E1.out, E2.out⟩
    · have hle : ¬ ((k : Int) < (n : Int) - 1 - k) := by omega
      have HE := hide (revF_end (l := l) (k := k) (by rw [← HN.out]; omega))
      clear ho hg
      go_wp2
      go_end0
      exact ⟨rfl, by rw [← HE.out]; exact HO.out, HG.out⟩
end Go.Proofs.Ytpfaaglaeholbaa
/-
  The program's images: inverted, distance, mirrored.
-/
namespace Go.Proofs.Ytpfaaglaeholbaa
open Go.RowKit

def invN (v : Int) : Int := if v = -1 then -1 else 1 - v
def upI (F : Nat → Int) (k : Nat) (i : Nat) : Int := if i < k then invN (F i) else F i
theorem upI_zero (F : Nat → Int) : upI F 0 = F := by funext i; simp [upI]
theorem upI_set (F : Nat → Int) (k : Nat) (v : Int) (h : invN (F k) = v) : (fun j => if j = k then v else upI F k j) = upI F (k + 1) := by
  funext j
  simp only [upI]
  by_cases e : j = k
  · subst e; simp [h]
  · rw [if_neg e]
    by_cases hl : j < k
    · rw [if_pos hl, if_pos (by omega)]
    · rw [if_neg hl, if_neg (by omega)]
theorem upI_skip (F : Nat → Int) (k : Nat) (h : F k = -1) : upI F k = upI F (k + 1) := by
  funext j
  simp only [upI]
  by_cases hl : j < k
  · rw [if_pos hl, if_pos (by omega)]
  · by_cases e : j = k
    · subst e; simp [h, invN]
    · rw [if_neg hl, if_neg (by omega)]
theorem upI_all (F : Nat → Int) : ∀ i, i < 25 → upI F (5 * 5) i = invN (F i) := fun i hi => by rw [upI, if_pos (by omega)]

/-- What distance answers: the number, and whether the sizes are the same. -/
def DistRes (b : Bool) (n : Nat) (w : World) (e : Ending) (w' : World) : Prop := e = .returned (.tuple #[.int .i64 (if b then n else 0 : Nat), .bool b]) ∧ Below w.heap.size w w'
theorem dist_no {b : Bool} {n : Nat} {w : World} {w' : World} (hb : b = false) (h : Below w.heap.size w w') : DistRes b n w (.returned (.tuple #[.int .i64 0, .bool false])) w' := by subst hb; exact ⟨rfl, h⟩
set_option maxHeartbeats 1000000 in
theorem distance_any (F G : Nat → Int) (b : Bool) (w : World) (hb : b = true ↔ ∀ i, i < 25 → (F i = -1 ↔ G i = -1)) :
    Calls Try.prog 57 #[.agg (vec 25 F), .agg (vec 25 G)] w (DistRes b (cnt (fun i => F i != G i) 25) w) := by
  obtain ⟨p, hp⟩ : ∃ p : Nat → Bool, p = fun i => F i != G i := ⟨_, rfl⟩
  have hpp : Hid (∀ i, p i = (F i != G i)) := hide fun i => by rw [hp]
  rw [← hp]
  clear hp
  have HH := hide hb
  clear hb
  go_enter Try.func57, Try.ntmps57
  go_wp2_with (first | (with_reducible refine wpList_boxVec 25 F 2 rfl rfl (.tmp 0) rfl rfl ?_; intro w1 h1 b1 s1) | (with_reducible refine wpList_boxVec 25 G 3 rfl rfl (.tmp 1) rfl rfl ?_; intro wa ha ba sa) | (with_reducible refine wpList_loadVec (blk_below h1 ba) 11 rfl rfl _ rfl rfl Try.underlying65 Try.sizeImg ?_))
  have B1 := hide (b1.trans (ba.mono (by omega)))
  have HP := hide ha
  rw [s1] at HP
  clear h1 b1 ha ba s1 sa
  go_loopw [6, 12] (fun n i w' => ∃ y : Nat, y ≤ 5 ∧ i = .int .i64 y ∧ n = .int .i64 (cnt p (5 * y)) ∧ (∀ i, i < 5 * y → (F i = -1 ↔ G i = -1)) ∧ Blk w' (w.heap.size + 1) 65 25 G ∧ Below w.heap.size w w') (fun _ i _ => 5 - (intOf i).toNat)
  case atStart => exact ⟨0, by omega, rfl, rfl, fun i h => absurd h (Nat.not_lt_zero _), HP.out, B1.out⟩
  case round =>
    clear B1 HP
    obtain ⟨y, hy, rfl, rfl, hall, hp, hb⟩ := hrel
    have HP := hide hp; have HB := hide hb; have HL := hide hall
    clear hp hb hall
    by_cases hlt : y < 5
    · have hyI : (y : Int) < 5 := by omega
      go_wp2_with (first | (with_reducible refine wpList_indexRow y 15 rfl rfl _ _ rfl rfl rfl Try.underlying65 Try.isAgg63 Try.sizeOf63 hlt (by omega) ?_) | (with_reducible refine wpList_allocVec 5 8 rfl rfl rfl Try.zeroRow ?_; intro w2 h2 b2 s2) | (with_reducible refine wpList_storeVec h2 rfl (.tmp 8) (.tmp 15) rfl rfl rfl Try.sizeRow ?_; intro w3 h3 g3 s3) | (with_reducible refine wpList_loadVec h3 16 rfl rfl _ rfl rfl Try.underlying63 Try.sizeRow ?_))
      have B3 := hide (row_below HB.out b2 g3)
      have P3 := hide (row_blk HP.out b2 g3)
      clear h2 b2 s2 h3 g3 s3
      go_loopw [6, 17] (fun n i w' => ∃ x : Nat, x ≤ 5 ∧ i = .int .i64 x ∧ n = .int .i64 (cnt p (5 * y + x)) ∧ (∀ i, i < 5 * y + x → (F i = -1 ↔ G i = -1)) ∧ Blk w' (w.heap.size + 1) 65 25 G ∧ Below w.heap.size w w') (fun _ i _ => 5 - (intOf i).toNat)
      case atStart => exact ⟨0, by omega, rfl, rfl, HL.out, P3.out, B3.out⟩
      case round =>
        clear B3 P3 HB HP HL
        obtain ⟨x, hx, rfl, rfl, hall, hp, hb⟩ := hrel
        have HP := hide hp; have HB := hide hb; have HL := hide hall
        clear hp hb hall
        have hle := cnt_le p (5 * y + x)
        by_cases hlx : x < 5
        · have hxI : (x : Int) < 5 := by omega
          have hcl := blk_cell HP.out (5 * y + x) (by omega)
          have HA : Hid (0 + y * 5 + x * 1 = 5 * y + x) := hide (by omega)
          have HE : Hid (y * 5 + x = 5 * y + x) := hide (by omega)
          have HQ := hide (hpp.out (5 * y + x))
          have HN : (F (5 * y + x) = -1 ↔ G (5 * y + x) = -1) → ∀ i, i < 5 * y + (x + 1) → (F i = -1 ↔ G i = -1) := fun h i hi => by
            by_cases e : i = 5 * y + x
            · subst e; exact h
            · exact HL.out i (by omega)
          have HN := hide HN
          have HF0 : Hid (¬ (F (5 * y + x) = -1 ↔ G (5 * y + x) = -1) → b = false) := hide fun h => by
            cases hbb : b with
            | false => rfl
            | true => exact absurd (HH.out.1 hbb (5 * y + x) (by omega)) h
          obtain ⟨s, hs⟩ : ∃ s, s = F (5 * y + x) := ⟨_, rfl⟩
          obtain ⟨t, ht⟩ : ∃ t, t = G (5 * y + x) := ⟨_, rfl⟩
          have HSV := hide hs.symm
          rw [← hs, ← ht] at HQ HN HF0
          rw [← ht] at hcl
          clear hs ht
          by_cases hs1 : s = -1
          · have q1 : (s == -1) = true := by simpa using hs1
            by_cases ht1 : t = -1
            · have q2 : (t == -1) = true := by simpa using ht1
              have HST : Hid (s = t) := hide (by rw [hs1, ht1])
              have q3 : (s != t) = false := by simp [hs1, ht1]
              have HC := hide (cnt_no (p := p) (k := 5 * y + x) (by rw [HQ.out]; exact q3))
              have HN2 := hide (HN.out ⟨fun _ => ht1, fun _ => hs1⟩)
              subst hs1 ht1
              clear q1 q2 q3
              go_wp2_with (first | (with_reducible refine wpList_indexVec x 20 rfl rfl _ _ rfl rfl rfl Try.underlying63 Try.isAgg3 Try.sizeOf3 hlx ?_; rw [HE.out, HSV.out]) | (with_reducible refine wpList_indexAt y 25 rfl rfl _ _ rfl rfl rfl Try.underlying65 Try.sizeOf63 hlt ?_) | (with_reducible refine wpList_indexAt x 26 rfl rfl _ _ rfl rfl rfl Try.underlying63 Try.sizeOf3 hlx ?_; rw [HA.out]) | (with_reducible refine wpList_indexAt y 33 rfl rfl _ _ rfl rfl rfl Try.underlying65 Try.sizeOf63 hlt ?_) | (with_reducible refine wpList_indexAt x 34 rfl rfl _ _ rfl rfl rfl Try.underlying63 Try.sizeOf3 hlx ?_; rw [HA.out]))
              go_roundw
              case rel => exact ⟨x + 1, by omega, by go_num, by rw [← Nat.add_assoc, HC.out], HN2.out, HP.out, HB.out⟩
              case measure => simp [intOf]; omega
            · have q2 : (t == -1) = false := by simpa using ht1
              have HB0 := hide (HF0.out (fun h => ht1 (h.1 hs1)))
              subst hs1
              clear q1 ht1
              go_wp2_with (first | (with_reducible refine wpList_indexVec x 20 rfl rfl _ _ rfl rfl rfl Try.underlying63 Try.isAgg3 Try.sizeOf3 hlx ?_; rw [HE.out, HSV.out]) | (with_reducible refine wpList_indexAt y 25 rfl rfl _ _ rfl rfl rfl Try.underlying65 Try.sizeOf63 hlt ?_) | (with_reducible refine wpList_indexAt x 26 rfl rfl _ _ rfl rfl rfl Try.underlying63 Try.sizeOf3 hlx ?_; rw [HA.out]) | (with_reducible refine wpList_indexAt y 33 rfl rfl _ _ rfl rfl rfl Try.underlying65 Try.sizeOf63 hlt ?_) | (with_reducible refine wpList_indexAt x 34 rfl rfl _ _ rfl rfl rfl Try.underlying63 Try.sizeOf3 hlx ?_; rw [HA.out]))
              go_ret2
              exact dist_no HB0.out HB.out
          · have q1 : (s == -1) = false := by simpa using hs1
            by_cases ht1 : t = -1
            · have HB0 := hide (HF0.out (fun h => hs1 (h.2 ht1)))
              subst ht1
              clear hs1
              go_wp2_with (first | (with_reducible refine wpList_indexVec x 20 rfl rfl _ _ rfl rfl rfl Try.underlying63 Try.isAgg3 Try.sizeOf3 hlx ?_; rw [HE.out, HSV.out]) | (with_reducible refine wpList_indexAt y 25 rfl rfl _ _ rfl rfl rfl Try.underlying65 Try.sizeOf63 hlt ?_) | (with_reducible refine wpList_indexAt x 26 rfl rfl _ _ rfl rfl rfl Try.underlying63 Try.sizeOf3 hlx ?_; rw [HA.out]) | (with_reducible refine wpList_indexAt y 33 rfl rfl _ _ rfl rfl rfl Try.underlying65 Try.sizeOf63 hlt ?_) | (with_reducible refine wpList_indexAt x 34 rfl rfl _ _ rfl rfl rfl Try.underlying63 Try.sizeOf3 hlx ?_; rw [HA.out]))
              go_ret2
              exact dist_no HB0.out HB.out
            · have q2 : (t == -1) = false := by simpa using ht1
              have HN2 := hide (HN.out ⟨fun h => absurd h hs1, fun h => absurd h ht1⟩)
              clear hs1 ht1
              by_cases hst : s = t
              · subst hst
                have HC := hide (cnt_no (p := p) (k := 5 * y + x) (by rw [HQ.out]; simp))
                go_wp2_with (first | (with_reducible refine wpList_indexVec x 20 rfl rfl _ _ rfl rfl rfl Try.underlying63 Try.isAgg3 Try.sizeOf3 hlx ?_; rw [HE.out, HSV.out]) | (with_reducible refine wpList_indexAt y 25 rfl rfl _ _ rfl rfl rfl Try.underlying65 Try.sizeOf63 hlt ?_) | (with_reducible refine wpList_indexAt x 26 rfl rfl _ _ rfl rfl rfl Try.underlying63 Try.sizeOf3 hlx ?_; rw [HA.out]) | (with_reducible refine wpList_indexAt y 33 rfl rfl _ _ rfl rfl rfl Try.underlying65 Try.sizeOf63 hlt ?_) | (with_reducible refine wpList_indexAt x 34 rfl rfl _ _ rfl rfl rfl Try.underlying63 Try.sizeOf3 hlx ?_; rw [HA.out]))
                go_roundw
                case rel => exact ⟨x + 1, by omega, by go_num, by rw [← Nat.add_assoc, HC.out], HN2.out, HP.out, HB.out⟩
                case measure => simp [intOf]; omega
              · have q3 : (s != t) = true := by simpa using hst
                have HC := hide (cnt_yes (p := p) (k := 5 * y + x) (by rw [HQ.out]; exact q3))
                clear hst
                go_wp2_with (first | (with_reducible refine wpList_indexVec x 20 rfl rfl _ _ rfl rfl rfl Try.underlying63 Try.isAgg3 Try.sizeOf3 hlx ?_; rw [HE.out, HSV.out]) | (with_reducible refine wpList_indexAt y 25 rfl rfl _ _ rfl rfl rfl Try.underlying65 Try.sizeOf63 hlt ?_) | (with_reducible refine wpList_indexAt x 26 rfl rfl _ _ rfl rfl rfl Try.underlying63 Try.sizeOf3 hlx ?_; rw [HA.out]) | (with_reducible refine wpList_indexAt y 33 rfl rfl _ _ rfl rfl rfl Try.underlying65 Try.sizeOf63 hlt ?_) | (with_reducible refine wpList_indexAt x 34 rfl rfl _ _ rfl rfl rfl Try.underlying63 Try.sizeOf3 hlx ?_; rw [HA.out]))
                go_roundw
                case rel => exact ⟨x + 1, by omega, by go_num, by rw [← Nat.add_assoc, HC.out]; go_num, HN2.out, HP.out, HB.out⟩
                case measure => simp [intOf]; omega
        · obtain rfl : x = 5 := by omega
          go_wp2
          go_roundw
          case rel => exact ⟨y + 1, by omega, by go_num, by rw [show 5 * (y + 1) = 5 * y + 5 by omega], HL.out, HP.out, HB.out⟩
          case measure => simp [intOf]; omega
    · obtain rfl : y = 5 := by omega
      have hbt : b = true := HH.out.2 HL.out
      subst hbt
      go_wp2
      go_ret2
      exact ⟨rfl, HB.out⟩

/-- Numbers put over others, from place o on. -/
def overF (F : Nat → Int) (o : Nat) (r : List Int) (j : Nat) : Int := if o ≤ j ∧ j < o + r.length then r.getD (j - o) 0 else F j
theorem blk_setCells {g n : Nat} {T : TypeId} : ∀ (r : List Int) (o : Nat) (w : World) (F : Nat → Int), Blk w g T n F → Blk (w.setCells g o (ints r)) g T n (overF F o r) ∧ w.grownBy (w.setCells g o (ints r)) (some g) ∧ (w.setCells g o (ints r)).heap.size = w.heap.size
  | [], o, w, F, h => ⟨blk_congr h fun i _ => by simp only [overF, List.length_nil]; rw [if_neg (by omega)], ⟨rfl, rfl, rfl, Nat.le_refl _, fun _ _ _ => rfl⟩, rfl⟩
  | x :: r, o, w, F, h => by
    have h1 := blk_set h o x
    obtain ⟨h2, h3, h4⟩ := blk_setCells r (o + 1) _ _ h1
    refine ⟨blk_congr h2 fun i _ => ?_, ?_, ?_⟩
    · simp only [overF, List.length_cons]
      by_cases e : i = o
      · subst e; rw [if_neg (by omega), if_pos rfl, if_pos (by omega), Nat.sub_self]; rfl
      · by_cases hl : o + 1 ≤ i ∧ i < o + 1 + r.length
        · rw [if_pos hl, if_pos (by omega), show i - o = (i - (o + 1)) + 1 by omega]; rfl
        · rw [if_neg hl, if_neg e, if_neg (by omega)]
    · refine grown_trans (b := w.setCell ⟨g, o, none⟩ (.int .i64 x)) ⟨rfl, rfl, rfl, by simp [World.setCell], fun k _ hr => heap_setCell_other w _ k _ fun e => hr (by rw [e])⟩ h3
    · show ((w.setCell ⟨g, o, none⟩ (.int .i64 x)).setCells g (o + 1) (ints r)).heap.size = w.heap.size
      rw [h4]; simp [World.setCell]
theorem vec_ints (n : Nat) (F : Nat → Int) : vecL n F = ints (rowF n F) := by simp [vecL, ints, rowF]

/-- A row goes into the middle of a variable. -/
theorem wpList_storeMid {P : Program} {ops : Array Oper} {rest : List Oper} {o : Oper} {a : Act} {Q : Exit → Act → World → Prop} {W : World} {g b n s : Nat} {T T' : TypeId} {F G : Nat → Int} (hb : Blk W g T n F)
    (hgd : o.guard = none) (x y : Operand) (ho : o.op = .store T' x y) (hx : a.eval x = .pointer (some ⟨g, b, none⟩)) (hy : a.eval y = .agg (vec s G)) (hi : (P.info? T').map (·.size) = some s) (hn : b + s ≤ n)
    (h : ∀ w', Blk w' g T n (fun j => if b ≤ j ∧ j < b + s then G (j - b) else F j) → W.grownBy w' (some g) → w'.heap.size = W.heap.size → wpList P ops Q rest (a.put o.dst undef) w') : wpList P ops Q (o :: rest) a W := by
  refine wpList_store_mid hgd T' x y ho g b (vec s G) hx hy (fun j hj => ?_) (by rw [hi, vec_size]) (vec_one s G) ?_
  · rw [vec_size] at hj
    exact ⟨by rw [blk_cell hb (b + j) (by omega)]; rfl, blk_frozen hb _⟩
  · have e : (vec s G).toList = ints (rowF s G) := by rw [← vec_ints]; rfl
    obtain ⟨h1, h2, h3⟩ := blk_setCells (rowF s G) b W F hb
    rw [e]
    refine h _ (blk_congr h1 fun i _ => ?_) h2 h3
    simp only [overF, rowF_len]
    by_cases hl : b ≤ i ∧ i < b + s
    · rw [if_pos hl, if_pos hl, List.getD_eq_getElem?_getD, List.getElem?_eq_getElem (by rw [rowF_len]; omega), Option.getD_some, rowF_at]
    · rw [if_neg hl, if_neg hl]

def mirR (n : Nat) (G : Nat → Int) (j : Nat) : Int := if j < n then G (n - 1 - j) else G j
end Go.Proofs.Ytpfaaglaeholbaa
/-
  The program's images: mirrored; the exported functions.
-/
namespace Go.Proofs.Ytpfaaglaeholbaa
open Go.RowKit

def mirM (C : Nat) (f : Nat → Nat → Int) (y x : Nat) : Int := f y (C - 1 - x)
def upMir (R C : Nat) (f : Nat → Nat → Int) (y : Nat) (i : Nat) : Int := if i / 5 < y then imgF R C (mirM C f) i else imgF R C f i
theorem upMir_zero (R C : Nat) (f : Nat → Nat → Int) : upMir R C f 0 = imgF R C f := by funext i; simp [upMir]
theorem upMir_all (R C : Nat) (f : Nat → Nat → Int) : ∀ i, i < 25 → upMir R C f 5 i = imgF R C (mirM C f) i := fun i hi => by rw [upMir, if_pos (by omega)]
theorem upMir_step (R C : Nat) (f : Nat → Nat → Int) (y n : Nat) (hC : C ≤ 5) (hn : n = if y < R then C else 0) : ∀ i, i < 25 →
    (if 0 + y * 5 ≤ i ∧ i < 0 + y * 5 + 5 then mirR n (fun j => imgF R C f (y * 5 + j)) (i - (0 + y * 5)) else upMir R C f y i) = upMir R C f (y + 1) i := fun i hi => by
  by_cases hl : 0 + y * 5 ≤ i ∧ i < 0 + y * 5 + 5
  · rw [if_pos hl, upMir, if_pos (by omega)]
    simp only [mirR, imgF]
    have e1 : i / 5 = y := by omega
    have e2 : i - (0 + y * 5) = i % 5 := by omega
    rw [e1, e2]
    by_cases hy : y < R
    · rw [if_pos hy] at hn
      subst hn
      by_cases hx : i % 5 < n
      · rw [if_pos hx, if_pos (by omega), if_pos ⟨hy, hx⟩, mirM, show (y * 5 + (n - 1 - i % 5)) / 5 = y by omega, show (y * 5 + (n - 1 - i % 5)) % 5 = n - 1 - i % 5 by omega]
      · rw [if_neg hx, if_neg (by omega), if_neg (by omega)]
    · rw [if_neg hy] at hn
      subst hn
      rw [if_neg (by omega), if_neg (by omega), if_neg (by omega)]
  · rw [if_neg hl, upMir, upMir]
    by_cases h2 : i / 5 < y
    · rw [if_pos h2, if_pos (by omega)]
    · rw [if_neg h2, if_neg (by omega)]

end Go.Proofs.Ytpfaaglaeholbaa
/-
  The program's exported functions on images.
-/
namespace Go.Proofs.Ytpfaaglaeholbaa
open Go.RowKit

def trM (f : Nat → Nat → Int) (y x : Nat) : Int := f x y
def invM (f : Nat → Nat → Int) (y x : Nat) : Int := 1 - f y x
theorem img_tr {R C : Nat} {f : Nat → Nat → Int} (h : Img R C f) : Img C R (trM f) := ⟨h.c1, h.c2, h.r1, h.r2, fun y x hy hx => h.cell x y hx hy⟩
theorem img_mir {R C : Nat} {f : Nat → Nat → Int} (h : Img R C f) : Img R C (mirM C f) := ⟨h.r1, h.r2, h.c1, h.c2, fun y x hy hx => h.cell y (C - 1 - x) hy (by omega)⟩
theorem img_inv {R C : Nat} {f : Nat → Nat → Int} (h : Img R C f) : Img R C (invM f) := ⟨h.r1, h.r2, h.c1, h.c2, fun y x hy hx => by rcases h.cell y x hy hx with e | e <;> simp [invM, e]⟩
theorem transposed_img (R C : Nat) (f : Nat → Nat → Int) (w : World) (_hI : Img R C f) :
    Calls Try.prog 139 #[.agg (vec 25 (imgF R C f))] w fun e w' => e = .returned (.agg (vec 25 (imgF C R (trM f)))) ∧ Below w.heap.size w w' := by
  rw [← vec_congr (n := 25) (F := fun i => imgF R C f (5 * (i % 5) + i / 5)) (G := imgF C R (trM f)) fun i hi => ?_]
  · exact transposed_any _ _
  · simp only [imgF, trM, show (5 * (i % 5) + i / 5) / 5 = i % 5 by omega, show (5 * (i % 5) + i / 5) % 5 = i / 5 by omega]
    by_cases h : i % 5 < R ∧ i / 5 < C
    · rw [if_pos h, if_pos ⟨h.2, h.1⟩]
    · rw [if_neg h, if_neg fun e => h ⟨e.2, e.1⟩]
set_option maxHeartbeats 400000 in
theorem implTransposeOf_no (v : Value) (m : List (List Int)) (w : World) (hin : InMat w v m) (h : okB m = false) :
    Calls Try.prog 121 #[v] w (MatRes [] w) := by
  have HI := hide hin; have H := hide h
  clear hin h
  go_enter Try.func121, Try.ntmps121
  go_wp2_with fail
  refine (imageOf_no v m _ HI.out H.out).mono ?_
  rintro e w1 ⟨rfl, b1⟩
  have B1 := hide b1
  clear b1
  go_wp2_with (first | (with_reducible refine wpList_allocVec 25 3 rfl rfl rfl Try.zeroImg ?_; intro wa ha ba sa) | (with_reducible refine wpList_storeVec ha rfl (.tmp 3) (.tmp 8) rfl rfl rfl Try.sizeImg ?_; intro wb hb gb sb) | (with_reducible refine wpList_loadVec hb 12 rfl rfl _ rfl rfl Try.underlying65 Try.sizeImg ?_))
  go_ret
  exact matRes_nil (B1.out.trans ((ba.mono B1.out.size).trans (grown_below gb (fun k hk => by cases hk; exact B1.out.size) (by have := B1.out.size; omega))))
set_option maxHeartbeats 400000 in
theorem implTransposeOf_yes (v : Value) (R C : Nat) (f : Nat → Nat → Int) (w : World) (hin : InMat w v (mkM R C f)) (hI : Img R C f) :
    Calls Try.prog 121 #[v] w (MatRes (mkM C R (trM f)) w) := by
  have HI := hide hin; have H := hide hI
  clear hin hI
  go_enter Try.func121, Try.ntmps121
  go_wp2_with fail
  refine (imageOf_yes v R C f _ HI.out H.out).mono ?_
  rintro e w1 ⟨rfl, b1⟩
  have B1 := hide b1
  clear b1
  go_wp2_with (first | (with_reducible refine wpList_allocVec 25 3 rfl rfl rfl Try.zeroImg ?_; intro wa ha ba sa) | (with_reducible refine wpList_storeVec ha rfl (.tmp 3) (.tmp 8) rfl rfl rfl Try.sizeImg ?_; intro wb hb gb sb) | (with_reducible refine wpList_loadVec hb 12 rfl rfl _ rfl rfl Try.underlying65 Try.sizeImg ?_))
  have B2 := hide (B1.out.trans ((ba.mono B1.out.size).trans (grown_below gb (fun k hk => by cases hk; exact B1.out.size) (by have := B1.out.size; omega))))
  clear ha ba sa hb gb sb
  refine (transposed_img R C f _ H.out).mono ?_
  rintro e w3 ⟨rfl, b3⟩
  have B3 := hide (B2.out.trans (b3.mono B2.out.size))
  clear b3
  go_wp2_with fail
  refine (lists_any C R (trM f) _ (img_tr H.out)).mono ?_
  rintro e w4 ⟨v4, rfl, o4, b4⟩
  have O4 := hide (ownMat_mono o4 B3.out.size (Nat.le_refl _)); have B4 := hide (B3.out.trans (b4.mono B3.out.size))
  clear o4 b4
  go_wp2
  go_ret
  exact ⟨_, rfl, O4.out, B4.out⟩

set_option maxHeartbeats 400000 in
theorem implCellAt_no (v : Value) (m : List (List Int)) (y x : Int) (w : World) (hin : InMat w v m) (h : okB m = false) :
    Calls Try.prog 79 #[v, .int .i64 y, .int .i64 x] w fun e w' => e = .returned (.int .i64 (-1)) ∧ Below w.heap.size w w' := by
  have HI := hide hin; have H := hide h
  clear hin h
  go_enter Try.func79, Try.ntmps79
  go_wp2_with fail
  refine (imageOf_no v m _ HI.out H.out).mono ?_
  rintro e w1 ⟨rfl, b1⟩
  have B1 := hide b1
  clear b1
  go_wp2_with (first | (with_reducible refine wpList_allocVec 25 7 rfl rfl rfl Try.zeroImg ?_; intro wa ha ba sa) | (with_reducible refine wpList_storeVec ha rfl (.tmp 7) (.tmp 12) rfl rfl rfl Try.sizeImg ?_; intro wb hb gb sb) | (with_reducible refine wpList_loadVec hb 16 rfl rfl _ rfl rfl Try.underlying65 Try.sizeImg ?_))
  go_ret
  exact ⟨rfl, B1.out.trans ((ba.mono B1.out.size).trans (grown_below gb (fun k hk => by cases hk; exact B1.out.size) (by have := B1.out.size; omega)))⟩
/-- The cell of a valid image, or -1. -/
def atM (R C : Nat) (f : Nat → Nat → Int) (y x : Int) : Int := if 0 ≤ y ∧ y < R ∧ 0 ≤ x ∧ x < C then f y.toNat x.toNat else -1
theorem cell_img (R C : Nat) (f : Nat → Nat → Int) (y x : Int) (w : World) (hI : Img R C f) :
    Calls Try.prog 93 #[.agg (vec 25 (imgF R C f)), .int .i64 y, .int .i64 x] w fun e w' => e = .returned (.int .i64 (atM R C f y x)) ∧ Below w.heap.size w w' := by
  have hR := hI.r2; have hC := hI.c2
  by_cases h : y < 0 ∨ 5 ≤ y ∨ x < 0 ∨ 5 ≤ x
  · refine (cell_out (imgF R C f) y x w h).mono ?_
    rintro e w' ⟨rfl, hb⟩
    exact ⟨by rw [atM, if_neg (by omega)], hb⟩
  · obtain ⟨a, rfl⟩ : ∃ a : Nat, y = a := ⟨y.toNat, by omega⟩
    obtain ⟨b, rfl⟩ : ∃ b : Nat, x = b := ⟨x.toNat, by omega⟩
    refine (cell_in (imgF R C f) a b w (by omega) (by omega)).mono ?_
    rintro e w' ⟨rfl, hb⟩
    refine ⟨ret_int ?_, hb⟩
    rw [imgF_at _ _ _ _ _ (by omega), atM]
    by_cases h2 : a < R ∧ b < C
    · rw [if_pos h2, if_pos (by omega)]; rfl
    · rw [if_neg h2, if_neg (by omega)]
set_option maxHeartbeats 400000 in
theorem implCellAt_yes (v : Value) (R C : Nat) (f : Nat → Nat → Int) (y x : Int) (w : World) (hin : InMat w v (mkM R C f)) (hI : Img R C f) :
    Calls Try.prog 79 #[v, .int .i64 y, .int .i64 x] w fun e w' => e = .returned (.int .i64 (atM R C f y x)) ∧ Below w.heap.size w w' := by
  have HI := hide hin; have H := hide hI
  clear hin hI
  go_enter Try.func79, Try.ntmps79
  go_wp2_with fail
  refine (imageOf_yes v R C f _ HI.out H.out).mono ?_
  rintro e w1 ⟨rfl, b1⟩
  have B1 := hide b1
  clear b1
  go_wp2_with (first | (with_reducible refine wpList_allocVec 25 7 rfl rfl rfl Try.zeroImg ?_; intro wa ha ba sa) | (with_reducible refine wpList_storeVec ha rfl (.tmp 7) (.tmp 12) rfl rfl rfl Try.sizeImg ?_; intro wb hb gb sb) | (with_reducible refine wpList_loadVec hb 16 rfl rfl _ rfl rfl Try.underlying65 Try.sizeImg ?_))
  have B2 := hide (B1.out.trans ((ba.mono B1.out.size).trans (grown_below gb (fun k hk => by cases hk; exact B1.out.size) (by have := B1.out.size; omega))))
  clear ha ba sa hb gb sb
  refine (cell_img R C f y x _ H.out).mono ?_
  rintro e w3 ⟨rfl, b3⟩
  have B3 := hide (B2.out.trans (b3.mono B2.out.size))
  clear b3
  go_wp2
  go_ret
  exact ⟨rfl, B3.out⟩

theorem img_zero {R C : Nat} (hR : 1 ≤ R ∧ R ≤ 5) (hC : 1 ≤ C ∧ C ≤ 5) : Img R C zeroM := ⟨hR.1, hR.2, hC.1, hC.2, fun _ _ _ _ => .inl rfl⟩
theorem whiteImage_img (R C : Nat) (w : World) :
    Calls Try.prog 87 #[.int .i64 R, .int .i64 C] w fun e w' => e = .returned (.agg (vec 25 (imgF R C zeroM))) ∧ Below w.heap.size w w' := by
  rw [← vec_congr (n := 25) (F := whiteF R C) (G := imgF R C zeroM) fun i hi => ?_]
  · exact whiteImage_any _ _ _
  · simp only [whiteF, imgF, zeroM]
    by_cases h : i / 5 < R ∧ i % 5 < C
    · rw [if_pos h, if_neg (by omega)]
    · rw [if_neg h, if_pos (by omega)]
end Go.Proofs.Ytpfaaglaeholbaa
/-
  The model's functions on images.
-/
namespace Go.Proofs.Ytpfaaglaeholbaa
open Go.RowKit

def inM (m : List (List Int)) (y x : Int) : Bool := okB m && decide (0 ≤ y ∧ y < m.length) && decide (0 ≤ x ∧ x < widthM m)
set_option maxHeartbeats 400000 in
theorem l02In_no (v : Value) (m : List (List Int)) (y x : Int) (w : World) (hin : InMat w v m) (h : okB m = false) :
    Calls Try.prog 77 #[v, .int .i64 y, .int .i64 x] w fun e w' => e = .returned (.bool false) ∧ w = w' := by
  have HI := hide hin; have H := hide h
  clear hin h
  go_enter Try.func77, Try.ntmps77
  go_wp2_with (with_reducible refine (specImageOk_any v m _ HI.out).mono ?_; rw [H.out]; rintro e w' ⟨rfl, rfl⟩)
  go_ret
  exact ⟨rfl, rfl⟩
set_option maxHeartbeats 400000 in
theorem l02In_img (v : Value) (R C : Nat) (f : Nat → Nat → Int) (y x : Int) (w : World) (hin : InMat w v (mkM R C f)) (hI : Img R C f) (b : Bool) (hb : b = true ↔ (0 ≤ y ∧ y < R ∧ 0 ≤ x ∧ x < C)) :
    Calls Try.prog 77 #[v, .int .i64 y, .int .i64 x] w fun e w' => e = .returned (.bool b) ∧ w = w' := by
  have HI := hide hin; have H := hide (img_ok hI)
  have hR := hI.r2; have hR1 := hI.r1; have hC := hI.c2; have hC1 := hI.c1
  obtain ⟨g, o, c, rfl, hg, hcell⟩ := inMat_img hin (by omega) (by omega)
  obtain ⟨g0, o0, c0, hx0, -⟩ := hcell 0 (by omega)
  rw [Nat.add_zero] at hx0
  have HB := hide hb
  clear hin hI hcell hb
  by_cases h1 : 0 ≤ y ∧ y ≤ (R : Int) - 1
  · have H1 := hide (decide_eq_true h1)
    by_cases h2 : 0 ≤ x ∧ x ≤ (C : Int) - 1
    · have H2 := hide (decide_eq_true h2)
      have HT : Hid (b = true) := hide (HB.out.2 (by omega))
      clear h1 h2
      go_enter Try.func77, Try.ntmps77
      go_wp2_with (first | (with_reducible refine (specImageOk_any _ _ _ HI.out).mono ?_; rw [H.out]; rintro e w' ⟨rfl, rfl⟩) | (with_reducible refine (l01In_any y 0 ((R : Int) - 1) _).mono ?_; rw [H1.out]; rintro e w' ⟨rfl, rfl⟩) | (with_reducible refine (l01In_any x 0 ((C : Int) - 1) _).mono ?_; rw [H2.out]; rintro e w' ⟨rfl, rfl⟩))
      go_ret
      exact ⟨ret_bool HT.out.symm, rfl⟩
    · have H2 := hide (decide_eq_false h2)
      have HT : Hid (b = false) := hide (by rw [Bool.eq_false_iff]; intro e; have := HB.out.1 e; omega)
      clear h1 h2
      go_enter Try.func77, Try.ntmps77
      go_wp2_with (first | (with_reducible refine (specImageOk_any _ _ _ HI.out).mono ?_; rw [H.out]; rintro e w' ⟨rfl, rfl⟩) | (with_reducible refine (l01In_any y 0 ((R : Int) - 1) _).mono ?_; rw [H1.out]; rintro e w' ⟨rfl, rfl⟩) | (with_reducible refine (l01In_any x 0 ((C : Int) - 1) _).mono ?_; rw [H2.out]; rintro e w' ⟨rfl, rfl⟩))
      go_ret
      exact ⟨ret_bool HT.out.symm, rfl⟩
  · have H1 := hide (decide_eq_false h1)
    have HT : Hid (b = false) := hide (by rw [Bool.eq_false_iff]; intro e; have := HB.out.1 e; omega)
    clear h1
    go_enter Try.func77, Try.ntmps77
    go_wp2_with (first | (with_reducible refine (specImageOk_any _ _ _ HI.out).mono ?_; rw [H.out]; rintro e w' ⟨rfl, rfl⟩) | (with_reducible refine (l01In_any y 0 ((R : Int) - 1) _).mono ?_; rw [H1.out]; rintro e w' ⟨rfl, rfl⟩))
    go_ret
    exact ⟨ret_bool HT.out.symm, rfl⟩

theorem cnt_row {R C : Nat} {f : Nat → Nat → Int} (p : Nat → Bool) (hp : ∀ i, imgF R C f i = -1 → p i = false) (y : Nat) (hC : C ≤ 5) : cnt p (5 * (y + 1)) = cnt p (5 * y + C) :=
  cnt_skip (by omega) fun i h1 h2 => hp i (by rw [imgF, if_neg (by omega)])
theorem cnt_end {R C : Nat} {f : Nat → Nat → Int} (p : Nat → Bool) (hp : ∀ i, imgF R C f i = -1 → p i = false) (hR : R ≤ 5) : cnt p 25 = cnt p (5 * R) :=
  cnt_skip (by omega) fun i h1 h2 => hp i (by rw [imgF, if_neg (by omega)])
end Go.Proofs.Ytpfaaglaeholbaa
/-
  TransposeOf, MirrorOf, InvertOf of the model.
-/
namespace Go.Proofs.Ytpfaaglaeholbaa
open Go.RowKit
set_option linter.unusedVariables false

def upTr (C : Nat) (f : Nat → Nat → Int) (y x a b : Nat) : Int := if b < y ∨ (b = y ∧ a < x) then f b a else 0
theorem upTr_zero (R C : Nat) (f : Nat → Nat → Int) : mkM C R zeroM = mkM C R (upTr C f 0 0) := mkM_congr fun a b ha hb => by rw [upTr, if_neg (by omega)]; rfl
theorem upTr_set (R C : Nat) (f : Nat → Nat → Int) (y x : Nat) (hy : y < R) (hx : x < C) (z : Int) (hz : f y x = z) :
    mkM C R (fun a b => if a = x ∧ b = y then z else upTr C f y x a b) = mkM C R (upTr C f y (x + 1)) := mkM_congr fun a b ha hb => by
  simp only [upTr]
  by_cases e : a = x ∧ b = y
  · obtain ⟨rfl, rfl⟩ := e
    rw [if_pos ⟨rfl, rfl⟩, if_pos (by omega), ← hz]
  · rw [if_neg e]
    by_cases hl : b < y ∨ (b = y ∧ a < x)
    · rw [if_pos hl, if_pos (by omega)]
    · rw [if_neg hl, if_neg (by omega)]
theorem upTr_next (R C : Nat) (f : Nat → Nat → Int) (y : Nat) (hy : y < R) : mkM C R (upTr C f y C) = mkM C R (upTr C f (y + 1) 0) := mkM_congr fun a b ha hb => by
  simp only [upTr]
  by_cases hl : b < y + 1
  · rw [if_pos (by omega), if_pos (by omega)]
  · rw [if_neg (by omega), if_neg (by omega)]
theorem upTr_all (R C : Nat) (f : Nat → Nat → Int) : mkM C R (upTr C f R 0) = mkM C R (trM f) := mkM_congr fun a b ha hb => by
  rw [upTr, if_pos (by omega)]; rfl
set_option maxHeartbeats 400000 in
theorem specTransposeOf_no (v : Value) (m : List (List Int)) (w : World) (hin : InMat w v m) (h : okB m = false) :
    Calls Try.prog 123 #[v] w (MatRes [] w) := by
  have HI := hide hin; have H := hide h
  clear hin h
  go_enter Try.func123, Try.ntmps123
  go_wp2_with (with_reducible refine (specImageOk_any v m _ HI.out).mono ?_; rw [H.out]; rintro e w' ⟨rfl, rfl⟩)
  go_ret
  exact matRes_nil (Below.refl _ _)
set_option maxHeartbeats 1000000 in
theorem specTransposeOf_yes (v : Value) (R C : Nat) (f : Nat → Nat → Int) (w : World) (hin : InMat w v (mkM R C f)) (hI : Img R C f) :
    Calls Try.prog 123 #[v] w (MatRes (mkM C R (trM f)) w) := by
  have HI := hide hin; have H := hide (img_ok hI); have HX := hide hI
  have hR1 := hI.r1; have hC1 := hI.c1; have hR := hI.r2; have hC := hI.c2
  obtain ⟨g, o, c, rfl, hg, hcell⟩ := inMat_img hin (by omega) (by omega)
  have HC := hide hcell
  obtain ⟨g0, o0, c0, hx0, -⟩ := hcell 0 (by omega)
  rw [Nat.add_zero] at hx0
  clear hin hI hcell
  go_enter Try.func123, Try.ntmps123
  go_wp2_with (first | (with_reducible refine (specImageOk_any _ _ _ HI.out).mono ?_; rw [H.out]; rintro e w' ⟨rfl, rfl⟩))
  refine (l02Empty_any C R _ (by omega) (by omega)).mono ?_
  rintro e w3 ⟨v3, rfl, o3, b3⟩
  rw [upTr_zero R C f] at o3
  obtain ⟨gv, cv, rfl⟩ := ownMat_some o3 (by rw [mkM_len]; omega)
  obtain ⟨hi, hhi⟩ : ∃ hi, hi = w3.heap.size := ⟨_, rfl⟩
  rw [← hhi] at o3
  rw [mkM_len] at *
  have B3 := hide b3; have O3 := hide o3
  have hge : hi ≤ w3.heap.size := by omega
  clear b3 o3 hhi hx0
  go_wp2
  go_loopw [20] (fun i w' => ∃ y : Nat, y ≤ R ∧ i = .int .i64 y ∧ hi ≤ w'.heap.size ∧ OwnMat w' w.heap.size hi (.slice (some ⟨gv, 0, none⟩) C cv) (mkM C R (upTr C f y 0)) ∧ Below w.heap.size w w') (fun i _ => R - (intOf i).toNat)
  case atStart => exact ⟨0, by omega, rfl, hge, O3.out, B3.out⟩

  case round =>
    clear B3 O3 hge
    obtain ⟨y, hy, rfl, hhi, hown, hb⟩ := hrel
    have HO := hide hown; have HB := hide hb
    clear hown hb
    by_cases hlt : y < R
    · have hyI : (y : Int) < R := by omega
      obtain ⟨g', o', c', hx, hg', hcc⟩ := HC.out y hlt
      have hx := below_cell HB.out hg hx
      have HCC := hide hcc
      clear hcc
      go_wp2
      go_loopw [27] (fun i w' => ∃ x : Nat, x ≤ C ∧ i = .int .i64 x ∧ hi ≤ w'.heap.size ∧ OwnMat w' w.heap.size hi (.slice (some ⟨gv, 0, none⟩) C cv) (mkM C R (upTr C f y x)) ∧ Below w.heap.size w w') (fun i _ => C - (intOf i).toNat)
      case atStart => exact ⟨0, by omega, rfl, hhi, HO.out, HB.out⟩
      case round =>
        clear HO HB hx hhi
        obtain ⟨x, hxx, rfl, hhi, hown, hb⟩ := hrel
        have HO := hide hown; have HB := hide hb
        clear hown hb
        by_cases hlx : x < C
        · have hxI : (x : Int) < C := by omega
          have hz := below_cell HB.out hg' (HCC.out x hlx)
          obtain ⟨gr, cr, hrow, hcl, hfr, hlo, hgh, hset⟩ := ownMat_cell HO.out (x) (y) (by omega) (by omega)
          have HSET := hide hset
          clear hset
          skip
          have HS := hide (upTr_set R C f y x hlt hlx _ rfl)
          go_wp2
          go_roundw
          case rel => exact ⟨x + 1, by omega, by go_num, by simpa [World.setCell] using hhi, by have := HSET.out (f y x); rw [HS.out] at this; exact this, HB.out.setCell hlo _⟩
          case measure => simp [intOf]; omega
        · obtain rfl : x = C := by omega
          have HS := hide (upTr_next R x f y hlt)
          rw [HS.out] at HO
          clear HS
          go_wp2
          go_roundw
          case rel => exact ⟨y + 1, by omega, by go_num, hhi, HO.out, HB.out⟩
          case measure => simp [intOf]; omega
    · obtain rfl : y = R := by omega
      have HS := hide (upTr_all y C f)
      rw [HS.out] at HO
      clear HS
      go_wp2
      go_ret
      exact ⟨_, rfl, ownMat_mono HO.out (Nat.le_refl _) hhi, HB.out⟩

def upMi (C : Nat) (f : Nat → Nat → Int) (y x a b : Nat) : Int := if a < y ∨ (a = y ∧ C - 1 - b < x) then f a (C - 1 - b) else 0
theorem upMi_zero (R C : Nat) (f : Nat → Nat → Int) : mkM R C zeroM = mkM R C (upMi C f 0 0) := mkM_congr fun a b ha hb => by rw [upMi, if_neg (by omega)]; rfl
theorem upMi_set (R C : Nat) (f : Nat → Nat → Int) (y x : Nat) (hy : y < R) (hx : x < C) (z : Int) (hz : f y x = z) :
    mkM R C (fun a b => if a = y ∧ b = C - 1 - x then z else upMi C f y x a b) = mkM R C (upMi C f y (x + 1)) := mkM_congr fun a b ha hb => by
  simp only [upMi]
  by_cases e : a = y ∧ b = C - 1 - x
  · obtain ⟨rfl, rfl⟩ := e
    rw [if_pos ⟨rfl, rfl⟩, if_pos (by omega), ← hz]; rw [show C - 1 - (C - 1 - x) = x by omega]
  · rw [if_neg e]
    by_cases hl : a < y ∨ (a = y ∧ C - 1 - b < x)
    · rw [if_pos hl, if_pos (by omega)]
    · rw [if_neg hl, if_neg (by omega)]
theorem upMi_next (R C : Nat) (f : Nat → Nat → Int) (y : Nat) (hy : y < R) : mkM R C (upMi C f y C) = mkM R C (upMi C f (y + 1) 0) := mkM_congr fun a b ha hb => by
  simp only [upMi]
  by_cases hl : a < y + 1
  · rw [if_pos (by omega), if_pos (by omega)]
  · rw [if_neg (by omega), if_neg (by omega)]
theorem upMi_all (R C : Nat) (f : Nat → Nat → Int) : mkM R C (upMi C f R 0) = mkM R C (mirM C f) := mkM_congr fun a b ha hb => by
  rw [upMi, if_pos (by omega)]; rfl
def upIn (C : Nat) (f : Nat → Nat → Int) (y x a b : Nat) : Int := if a < y ∨ (a = y ∧ b < x) then 1 - f a b else 0
theorem upIn_zero (R C : Nat) (f : Nat → Nat → Int) : mkM R C zeroM = mkM R C (upIn C f 0 0) := mkM_congr fun a b ha hb => by rw [upIn, if_neg (by omega)]; rfl
theorem upIn_set (R C : Nat) (f : Nat → Nat → Int) (y x : Nat) (hy : y < R) (hx : x < C) (z : Int) (hz : 1 - f y x = z) :
    mkM R C (fun a b => if a = y ∧ b = x then z else upIn C f y x a b) = mkM R C (upIn C f y (x + 1)) := mkM_congr fun a b ha hb => by
  simp only [upIn]
  by_cases e : a = y ∧ b = x
  · obtain ⟨rfl, rfl⟩ := e
    rw [if_pos ⟨rfl, rfl⟩, if_pos (by omega), ← hz]
  · rw [if_neg e]
    by_cases hl : a < y ∨ (a = y ∧ b < x)
    · rw [if_pos hl, if_pos (by omega)]
    · rw [if_neg hl, if_neg (by omega)]
theorem upIn_next (R C : Nat) (f : Nat → Nat → Int) (y : Nat) (hy : y < R) : mkM R C (upIn C f y C) = mkM R C (upIn C f (y + 1) 0) := mkM_congr fun a b ha hb => by
  simp only [upIn]
  by_cases hl : a < y + 1
  · rw [if_pos (by omega), if_pos (by omega)]
  · rw [if_neg (by omega), if_neg (by omega)]
theorem upIn_all (R C : Nat) (f : Nat → Nat → Int) : mkM R C (upIn C f R 0) = mkM R C (invM f) := mkM_congr fun a b ha hb => by
  rw [upIn, if_pos (by omega)]; rfl
end Go.Proofs.Ytpfaaglaeholbaa
/-
  ColSums of both.
-/
namespace Go.Proofs.Ytpfaaglaeholbaa
open Go.RowKit

theorem implColSums_no (v : Value) (m : List (List Int)) (w : World) (hin : InMat w v m) (h : okB m = false) :
    Calls Try.prog 82 #[v] w (IntsRes [] w) := by
  have HI := hide hin; have H := hide h
  clear hin h
  go_enter Try.func82, Try.ntmps82
  go_wp2_with fail
  refine (implTransposeOf_no v m _ HI.out H.out).mono ?_
  rintro e w1 ⟨u, rfl, ho, hb⟩
  have HM := hide (inMat_own ho); have HB := hide hb
  clear ho hb
  go_wp2_with fail
  refine (implRowSums_no u [] _ HM.out (by decide)).mono ?_
  rintro e w2 ⟨u2, rfl, ho, hb⟩
  have HO := hide (own_base ho HB.out.size); have HB2 := hide (HB.out.trans (hb.mono HB.out.size))
  clear ho hb
  go_wp2
  go_ret
  exact ⟨_, rfl, HO.out, HB2.out⟩
theorem implColSums_yes (v : Value) (R C : Nat) (f : Nat → Nat → Int) (w : World) (hin : InMat w v (mkM R C f)) (hI : Img R C f) :
    Calls Try.prog 82 #[v] w (IntsRes (rowsL C R (trM f)) w) := by
  have HI := hide hin; have H := hide hI
  clear hin hI
  go_enter Try.func82, Try.ntmps82
  go_wp2_with fail
  refine (implTransposeOf_yes v R C f _ HI.out H.out).mono ?_
  rintro e w1 ⟨u, rfl, ho, hb⟩
  have HM := hide (inMat_own ho); have HB := hide hb
  clear ho hb
  go_wp2_with fail
  refine (implRowSums_yes u C R (trM f) _ HM.out (img_tr H.out)).mono ?_
  rintro e w2 ⟨u2, rfl, ho, hb⟩
  have HO := hide (own_base ho HB.out.size); have HB2 := hide (HB.out.trans (hb.mono HB.out.size))
  clear ho hb
  go_wp2
  go_ret
  exact ⟨_, rfl, HO.out, HB2.out⟩

theorem specColSums_no (v : Value) (m : List (List Int)) (w : World) (hin : InMat w v m) (h : okB m = false) :
    Calls Try.prog 99 #[v] w (IntsRes [] w) := by
  have HI := hide hin; have H := hide h
  clear hin h
  go_enter Try.func99, Try.ntmps99
  go_wp2_with fail
  refine (specTransposeOf_no v m _ HI.out H.out).mono ?_
  rintro e w1 ⟨u, rfl, ho, hb⟩
  have HM := hide (inMat_own ho); have HB := hide hb
  clear ho hb
  go_wp2_with fail
  refine (specRowSums_no u [] _ HM.out (by decide)).mono ?_
  rintro e w2 ⟨u2, rfl, ho, hb⟩
  have HO := hide (own_base ho HB.out.size); have HB2 := hide (HB.out.trans (hb.mono HB.out.size))
  clear ho hb
  go_wp2
  go_ret
  exact ⟨_, rfl, HO.out, HB2.out⟩
theorem specColSums_yes (v : Value) (R C : Nat) (f : Nat → Nat → Int) (w : World) (hin : InMat w v (mkM R C f)) (hI : Img R C f) :
    Calls Try.prog 99 #[v] w (IntsRes (rowsL C R (trM f)) w) := by
  have HI := hide hin; have H := hide hI
  clear hin hI
  go_enter Try.func99, Try.ntmps99
  go_wp2_with fail
  refine (specTransposeOf_yes v R C f _ HI.out H.out).mono ?_
  rintro e w1 ⟨u, rfl, ho, hb⟩
  have HM := hide (inMat_own ho); have HB := hide hb
  clear ho hb
  go_wp2_with fail
  refine (specRowSums_yes u C R (trM f) _ HM.out (img_tr H.out)).mono ?_
  rintro e w2 ⟨u2, rfl, ho, hb⟩
  have HO := hide (own_base ho HB.out.size); have HB2 := hide (HB.out.trans (hb.mono HB.out.size))
  clear ho hb
  go_wp2
  go_ret
  exact ⟨_, rfl, HO.out, HB2.out⟩
end Go.Proofs.Ytpfaaglaeholbaa
/-
  Lists of integers held against one another: slices.Equal.
-/
namespace Go.Proofs.Ytpfaaglaeholbaa
open Go.RowKit

theorem sameRow_no {r s : List Int} (h : r.length ≠ s.length) : (r == s) = false := by
  rw [beq_eq_false_iff_ne]; intro e; exact h (by rw [e])
theorem sameRow_no2 {r s : List Int} (k : Nat) (hr : k < r.length) (hs : k < s.length) (h : r[k] ≠ s[k]) : (r == s) = false := by
  rw [beq_eq_false_iff_ne]; intro e; subst e; exact h rfl
theorem sameRow_yes {r s : List Int} (h : r.length = s.length) (h2 : ∀ k, (hr : k < r.length) → (hs : k < s.length) → r[k] = s[k]) : (r == s) = true := by
  rw [beq_iff_eq]; exact List.ext_getElem h h2
theorem sameMat_no {r s : List (List Int)} (h : r.length ≠ s.length) : (r == s) = false := by
  rw [beq_eq_false_iff_ne]; intro e; exact h (by rw [e])
theorem sameMat_no2 {r s : List (List Int)} (k : Nat) (hr : k < r.length) (hs : k < s.length) (h : (r[k] == s[k]) = false) : (r == s) = false := by
  rw [beq_eq_false_iff_ne] at h ⊢; intro e; subst e; exact h rfl
theorem sameMat_yes {r s : List (List Int)} (h : r.length = s.length) (h2 : ∀ k, (hr : k < r.length) → (hs : k < s.length) → (r[k] == s[k]) = true) : (r == s) = true := by
  rw [beq_iff_eq]; exact List.ext_getElem h fun k h1 h2' => by simpa using h2 k h1 h2'

set_option maxHeartbeats 1000000 in
theorem l02Same_any (va vb : Value) (r s : List Int) (w : World) (ha : InRow w va r) (hb : InRow w vb s) :
    Calls Try.prog 97 #[va, vb] w fun e w' => e = .returned (.bool (r == s)) ∧ w = w' := by
  obtain ⟨a, ca, rfl, hma, hpa⟩ := ha
  obtain ⟨b, cb, rfl, hmb, hpb⟩ := hb
  unfold maxLen at hma hmb
  by_cases hlen : r.length = s.length
  · by_cases h0 : r.length = 0
    · have hr : r = [] := List.eq_nil_of_length_eq_zero h0
      have hs : s = [] := List.eq_nil_of_length_eq_zero (by omega)
      subst hr; subst hs
      clear hpa hpb hma hmb hlen h0
      go_enter Try.func97, Try.ntmps97
      go_wp2
      go_loop [14] (fun i => i = .int .i64 0) (fun _ => 0)
      case atStart => rfl
      case round =>
        obtain rfl := hrel
        go_wp2
        go_ret
        exact ⟨rfl, rfl⟩
    · obtain ⟨ga, oa, rfl, -, hca⟩ := hpa.resolve_left h0
      obtain ⟨gb, ob, rfl, -, hcb⟩ := hpb.resolve_left (by omega)
      have HA := hide hca; have HB := hide hcb; have HL := hide hlen
      obtain ⟨n, hn⟩ : ∃ n, n = r.length := ⟨_, rfl⟩
      have HN := hide hn
      have HM : Hid (s.length = n) := hide (by omega)
      rw [← hlen, ← hn]
      rw [← hn] at hma
      clear hpa hpb hca hcb h0 hmb hlen hn
      go_enter Try.func97, Try.ntmps97
      go_wp2
      go_loop [14] (fun i => ∃ k : Nat, k ≤ n ∧ i = .int .i64 k ∧ ∀ t, (h1 : t < r.length) → (h2 : t < s.length) → t < k → r[t] = s[t]) (fun i => n - (intOf i).toNat)
      case atStart => exact ⟨0, Nat.zero_le _, rfl, fun t _ _ h => absurd h (Nat.not_lt_zero _)⟩
      case round =>
        obtain ⟨k, hk, rfl, hall⟩ := hrel
        have HH := hide hall
        clear hall
        by_cases hlt : k < n
        · have hkr : k < r.length := by rw [← HN.out]; exact hlt
          have hks : k < s.length := by rw [HM.out]; exact hlt
          have hxa := HA.out k hkr
          have hxb := HB.out k hks
          have HNO := hide (fun h => sameRow_no2 k hkr hks h)
          have HST : Hid (r[k] = s[k] → ∀ t, (h1 : t < r.length) → (h2 : t < s.length) → t < k + 1 → r[t] = s[t]) := hide fun h t h1 h2 ht => by
            by_cases e : t = k
            · subst e; exact h
            · exact HH.out t h1 h2 (by omega)
          obtain ⟨x, hx⟩ : ∃ x, x = r[k] := ⟨_, rfl⟩
          obtain ⟨y, hy⟩ : ∃ y, y = s[k] := ⟨_, rfl⟩
          rw [← hx, ← hy] at HNO HST
          rw [← hx] at hxa
          rw [← hy] at hxb
          clear hx hy
          by_cases e : x = y
          · subst e
            have HST := hide (HST.out rfl)
            go_wp2
            go_round
            case rel => exact ⟨k + 1, by omega, by go_num, HST.out⟩
            case measure => simp [intOf]; omega
          · have HF := hide (HNO.out e)
            have hne : (x == y) = false := by simpa using e
            have hne2 : (x != y) = true := by simpa using e
            clear e
            go_wp2
            go_ret
            exact ⟨ret_bool HF.out.symm, rfl⟩
        · have HY := hide (sameRow_yes HL.out fun t h1 h2 => HH.out t h1 h2 (by have := HN.out; omega))
          go_wp2
          go_ret
          exact ⟨ret_bool HY.out.symm, rfl⟩
  · have HF := hide (sameRow_no hlen)
    obtain ⟨n, hn⟩ : ∃ n, n = r.length := ⟨_, rfl⟩
    obtain ⟨k, hk⟩ : ∃ k, k = s.length := ⟨_, rfl⟩
    rw [← hn, ← hk] at hlen ⊢
    rw [← hn] at hma
    rw [← hk] at hmb
    have hne : ((n : Int) == (k : Int)) = false := by simp; omega
    have hne2 : ((n : Int) != (k : Int)) = true := by simp; omega
    clear hpa hpb hn hk hlen
    go_enter Try.func97, Try.ntmps97
    go_wp2
    go_ret
    exact ⟨ret_bool HF.out.symm, rfl⟩

end Go.Proofs.Ytpfaaglaeholbaa
/-
  SameImage, of the model and of the program, and the exact law, walked.
-/
namespace Go.Proofs.Ytpfaaglaeholbaa
open Go.RowKit

set_option maxHeartbeats 1000000 in
theorem specSameImage_any (va vb : Value) (m l : List (List Int)) (w : World) (ha : InMat w va m) (hb : InMat w vb l) :
    Calls Try.prog 100 #[va, vb] w fun e w' => e = .returned (.bool (m == l)) ∧ Below w.heap.size w w' := by
  obtain ⟨a, ca, rfl, hma, hpa⟩ := ha
  obtain ⟨b, cb, rfl, hmb, hpb⟩ := hb
  unfold maxLen at hma hmb
  by_cases hlen : m.length = l.length
  · by_cases h0 : m.length = 0
    · have hr : m = [] := List.eq_nil_of_length_eq_zero h0
      have hs : l = [] := List.eq_nil_of_length_eq_zero (by omega)
      subst hr; subst hs
      clear hpa hpb hma hmb hlen h0
      go_enter Try.func100, Try.ntmps100
      go_wp2
      go_loop [14] (fun i => i = .int .i64 0) (fun _ => 0)
      case atStart => rfl
      case round =>
        obtain rfl := hrel
        go_wp2
        go_ret
        exact ⟨rfl, Below.refl _ _⟩
    · obtain ⟨ga, oa, rfl, hga, hca⟩ := hpa.resolve_left h0
      obtain ⟨gb, ob, rfl, hgb, hcb⟩ := hpb.resolve_left (by omega)
      have HA := hide hca; have HB := hide hcb; have HL := hide hlen
      obtain ⟨n, hn⟩ : ∃ n, n = m.length := ⟨_, rfl⟩
      have HN := hide hn
      have HM : Hid (l.length = n) := hide (by omega)
      rw [← hlen, ← hn]
      rw [← hn] at hma
      clear hpa hpb hca hcb h0 hmb hlen hn
      go_enter Try.func100, Try.ntmps100
      go_wp2
      go_loopw [14] (fun i w' => ∃ k : Nat, k ≤ n ∧ i = .int .i64 k ∧ (∀ t, (h1 : t < m.length) → (h2 : t < l.length) → t < k → (m[t] == l[t]) = true) ∧ Below w.heap.size w w') (fun i _ => n - (intOf i).toNat)
      case atStart => exact ⟨0, Nat.zero_le _, rfl, fun t _ _ h => absurd h (Nat.not_lt_zero _), Below.refl _ _⟩
      case round =>
        obtain ⟨k, hk, rfl, hall, hbb⟩ := hrel
        have HH := hide hall; have HBB := hide hbb
        clear hall hbb
        by_cases hlt : k < n
        · have hkr : k < m.length := by rw [← HN.out]; exact hlt
          have hks : k < l.length := by rw [HM.out]; exact hlt
          obtain ⟨ua, hxa, hra⟩ := HA.out k hkr
          obtain ⟨ub, hxb, hrb⟩ := HB.out k hks
          have hxa := below_cell HBB.out hga hxa
          have hxb := below_cell HBB.out hgb hxb
          have HRA := hide (inRow_below hra HBB.out)
          have HRB := hide (inRow_below hrb HBB.out)
          have HNO := hide (fun h => sameMat_no2 k hkr hks h)
          have HST : Hid ((m[k] == l[k]) = true → ∀ t, (h1 : t < m.length) → (h2 : t < l.length) → t < k + 1 → (m[t] == l[t]) = true) := hide fun h t h1 h2 ht => by
            by_cases e : t = k
            · subst e; exact h
            · exact HH.out t h1 h2 (by omega)
          clear hra hrb
          cases e : (m[k] == l[k]) with
          | true =>
            have HE := hide e
            have HST := hide (HST.out e)
            clear e
            go_wp2_with (go_at_call 97; refine (l02Same_any _ _ _ _ _ HRA.out HRB.out).mono ?_; rw [HE.out]; rintro e w9 ⟨rfl, rfl⟩)
            go_roundw
            case rel => exact ⟨k + 1, by omega, by go_num, HST.out, HBB.out⟩
            case measure => simp [intOf]; omega
          | false =>
            have HE := hide e
            have HF := hide (HNO.out e)
            clear e
            go_wp2_with (go_at_call 97; refine (l02Same_any _ _ _ _ _ HRA.out HRB.out).mono ?_; rw [HE.out]; rintro e w9 ⟨rfl, rfl⟩)
            go_ret
            exact ⟨ret_bool HF.out.symm, HBB.out⟩
        · have HY := hide (sameMat_yes HL.out fun t h1 h2 => HH.out t h1 h2 (by have := HN.out; omega))
          go_wp2
          go_ret
          exact ⟨ret_bool HY.out.symm, HBB.out⟩
  · have HF := hide (sameMat_no hlen)
    obtain ⟨n, hn⟩ : ∃ n, n = m.length := ⟨_, rfl⟩
    obtain ⟨k, hk⟩ : ∃ k, k = l.length := ⟨_, rfl⟩
    rw [← hn, ← hk] at hlen ⊢
    rw [← hn] at hma
    rw [← hk] at hmb
    have hne : ((n : Int) == (k : Int)) = false := by simp; omega
    have hne2 : ((n : Int) != (k : Int)) = true := by simp; omega
    clear hpa hpb hn hk hlen
    go_enter Try.func100, Try.ntmps100
    go_wp2
    go_ret
    exact ⟨ret_bool HF.out.symm, Below.refl _ _⟩

end Go.Proofs.Ytpfaaglaeholbaa
/-
  PutCell and DistanceOf of the program.
-/
namespace Go.Proofs.Ytpfaaglaeholbaa
open Go.RowKit

/-- The whole variable is read, behind a guard that says yes. -/
theorem wpList_loadVecG {P : Program} {ops : Array Oper} {rest : List Oper} {o : Oper} {a : Act} {Q : Exit → Act → World → Prop} {W : World} {g n m : Nat} {T T' e : TypeId} {F : Nat → Int} (hb : Blk W g T n F) (d : Tmp) (_hd : o.dst = some d)
    (hw : Region.wanted o (yielded ops a.tmps) = true) (x : Operand) (ho : o.op = .load T' x) (hx : a.eval x = .pointer (some ⟨g, 0, none⟩)) (hu : P.underlying T' = some (.array m e)) (hi : (P.info? T').map (·.size) = some n)
    (h : wpList P ops Q rest (a.put o.dst (.agg (vec n F))) W) : wpList P ops Q (o :: rest) a W :=
  BigFrame.wpList_want hw fun K hK => wp_load_row T' x ho g hx T (vec n F) (0, 0) _ hb hu rfl (by rw [hi, vec_size]) (hK _ _ h)

/-- The image with another cell. -/
def putM (f : Nat → Nat → Int) (a b : Nat) (c : Int) (y x : Nat) : Int := if y = a ∧ x = b then c else f y x
theorem img_put {R C : Nat} {f : Nat → Nat → Int} (h : Img R C f) (a b : Nat) {c : Int} (hc : c = 0 ∨ c = 1) : Img R C (putM f a b c) := ⟨h.r1, h.r2, h.c1, h.c2, fun y x hy hx => by
  unfold putM; split
  · exact hc
  · exact h.cell y x hy hx⟩
theorem imgF_put (R C : Nat) (f : Nat → Nat → Int) (a b : Nat) (c : Int) (ha : a < R) (hb : b < C) (hC : C ≤ 5) : ∀ i, i < 25 → (if i = 5 * a + b then c else imgF R C f i) = imgF R C (putM f a b c) i := fun i hi => by
  simp only [imgF, putM]
  by_cases e : i = 5 * a + b
  · subst e
    rw [if_pos rfl, if_pos (by omega), if_pos (by omega)]
  · rw [if_neg e]
    by_cases h : i / 5 < R ∧ i % 5 < C
    · rw [if_pos h, if_pos h, if_neg (by omega)]
    · rw [if_neg h, if_neg h]

end Go.Proofs.Ytpfaaglaeholbaa
/-
  DistanceOf of the program.
-/
namespace Go.Proofs.Ytpfaaglaeholbaa
open Go.RowKit

theorem imageOf_any (v : Value) (m : List (List Int)) (w : World) (hin : InMat w v m) :
    Calls Try.prog 49 #[v] w fun e w' => (∃ F, e = .returned (.tuple #[.agg (vec 25 F), .bool (okB m)])) ∧ Below w.heap.size w w' := by
  cases h : okB m with
  | false =>
    refine (imageOf_no v m w hin h).mono ?_
    rintro e w' ⟨rfl, hb⟩
    exact ⟨⟨_, rfl⟩, hb⟩
  | true =>
    obtain ⟨R, C, f, rfl, hI⟩ := ok_img h
    refine (imageOf_yes v R C f w hin hI).mono ?_
    rintro e w' ⟨rfl, hb⟩
    exact ⟨⟨_, rfl⟩, hb⟩
theorem imgF_none {R C : Nat} {f : Nat → Nat → Int} (h : Img R C f) (i : Nat) : imgF R C f i = -1 ↔ ¬ (i / 5 < R ∧ i % 5 < C) := by
  unfold imgF
  by_cases hi : i / 5 < R ∧ i % 5 < C
  · rw [if_pos hi]
    constructor
    · intro e; rcases h.cell _ _ hi.1 hi.2 with e' | e' <;> rw [e'] at e <;> cases e
    · intro e; exact absurd hi e
  · rw [if_neg hi]; exact ⟨fun _ => hi, fun _ => rfl⟩
theorem same_sizes {R C R' C' : Nat} {f g : Nat → Nat → Int} (h : Img R C f) (h' : Img R' C' g) : decide (R = R' ∧ C = C') = true ↔ ∀ i, i < 25 → (imgF R C f i = -1 ↔ imgF R' C' g i = -1) := by
  have a1 := h.r1; have a2 := h.r2; have a3 := h.c1; have a4 := h.c2
  have b1 := h'.r1; have b2 := h'.r2; have b3 := h'.c1; have b4 := h'.c2
  rw [decide_eq_true_eq]
  constructor
  · rintro ⟨rfl, rfl⟩ i hi
    rw [imgF_none h, imgF_none h']
  · intro hall
    have hq : ∀ y x, y < 5 → x < 5 → ((y < R ∧ x < C) ↔ (y < R' ∧ x < C')) := fun y x hy hx => by
      have := hall (5 * y + x) (by omega)
      rw [imgF_none h, imgF_none h', show (5 * y + x) / 5 = y by omega, show (5 * y + x) % 5 = x by omega] at this
      exact ⟨fun h1 => Decidable.byContradiction fun n => (this.2 n) h1, fun h1 => Decidable.byContradiction fun n => (this.1 n) h1⟩
    constructor
    · by_cases l : R < R'
      · have := (hq R 0 (by omega) (by omega)).2 ⟨l, by omega⟩; omega
      · by_cases l2 : R' < R
        · have := (hq R' 0 (by omega) (by omega)).1 ⟨l2, by omega⟩; omega
        · omega
    · by_cases l : C < C'
      · have := (hq 0 C (by omega) (by omega)).2 ⟨by omega, l⟩; omega
      · by_cases l2 : C' < C
        · have := (hq 0 C' (by omega) (by omega)).1 ⟨by omega, l2⟩; omega
        · omega
theorem distance_img (R C R' C' : Nat) (f g : Nat → Nat → Int) (w : World) (h : Img R C f) (h' : Img R' C' g) (b : Bool) (hb : decide (R = R' ∧ C = C') = b) :
    Calls Try.prog 57 #[.agg (vec 25 (imgF R C f)), .agg (vec 25 (imgF R' C' g))] w (DistRes b (cnt (fun i => imgF R C f i != imgF R' C' g i) 25) w) := by
  subst hb; exact distance_any _ _ _ _ (same_sizes h h')

set_option maxHeartbeats 1000000 in
theorem implDistanceOf_no (v u : Value) (m k : List (List Int)) (w : World) (hin : InMat w v m) (hin2 : InMat w u k) (h : (okB m && okB k) = false) :
    Calls Try.prog 13 #[v, u] w fun e w' => e = .returned (.int .i64 (-1)) ∧ Below w.heap.size w w' := by
  have HI := hide hin; have HI2 := hide hin2
  clear hin hin2
  obtain ⟨p, hp⟩ : ∃ p, p = okB m := ⟨_, rfl⟩
  obtain ⟨q, hq⟩ : ∃ q, q = okB k := ⟨_, rfl⟩
  rw [← hp, ← hq] at h
  have HP := hide hp.symm; have HQ := hide hq.symm
  clear hp hq
  go_enter Try.func13, Try.ntmps13
  go_wp2_with fail
  refine (imageOf_any v m _ HI.out).mono ?_
  rw [HP.out]
  rintro e w1 ⟨⟨F, rfl⟩, b1⟩
  have B1 := hide b1
  clear b1
  go_wp2_with (first | (with_reducible refine wpList_allocVec 25 5 rfl rfl rfl Try.zeroImg ?_; intro waa haa baa saa) | (with_reducible refine wpList_storeVec haa rfl (.tmp 5) (.tmp 14) rfl rfl rfl Try.sizeImg ?_; intro wba hba gba sba) | (with_reducible refine wpList_loadVec hba 99 rfl rfl _ rfl rfl Try.underlying65 Try.sizeImg ?_))
  have B2 := hide (B1.out.trans ((baa.mono B1.out.size).trans (grown_below gba (fun k hk => by cases hk; exact B1.out.size) (by have := B1.out.size; omega))))
  clear haa baa saa hba gba sba
  refine (imageOf_any u k _ (inMat_below HI2.out B2.out)).mono ?_
  rw [HQ.out]
  rintro e w3 ⟨⟨G, rfl⟩, b3⟩
  have B3 := hide (B2.out.trans (b3.mono B2.out.size))
  clear b3
  cases p with
  | false =>
    go_wp2_with (first | (with_reducible refine wpList_allocVec 25 7 rfl rfl rfl Try.zeroImg ?_; intro wab hab bab sab) | (with_reducible refine wpList_storeVec hab rfl (.tmp 7) (.tmp 19) rfl rfl rfl Try.sizeImg ?_; intro wbb hbb gbb sbb) | (with_reducible refine wpList_loadVec hbb 29 rfl rfl _ rfl rfl Try.underlying65 Try.sizeImg ?_))
    go_ret
    exact ⟨rfl, B3.out.trans ((bab.mono B3.out.size).trans (grown_below gbb (fun k hk => by cases hk; exact B3.out.size) (by have := B3.out.size; omega)))⟩
  | true =>
    obtain rfl : q = false := by simpa using h
    go_wp2_with (first | (with_reducible refine wpList_allocVec 25 7 rfl rfl rfl Try.zeroImg ?_; intro wab hab bab sab) | (with_reducible refine wpList_storeVec hab rfl (.tmp 7) (.tmp 19) rfl rfl rfl Try.sizeImg ?_; intro wbb hbb gbb sbb) | (with_reducible refine wpList_loadVec hbb 29 rfl rfl _ rfl rfl Try.underlying65 Try.sizeImg ?_))
    go_ret
    exact ⟨rfl, B3.out.trans ((bab.mono B3.out.size).trans (grown_below gbb (fun k hk => by cases hk; exact B3.out.size) (by have := B3.out.size; omega)))⟩

set_option maxHeartbeats 1000000 in
theorem implDistanceOf_yes (v u : Value) (R C R' C' : Nat) (f g : Nat → Nat → Int) (w : World) (hin : InMat w v (mkM R C f)) (hin2 : InMat w u (mkM R' C' g)) (h : Img R C f) (h' : Img R' C' g) :
    Calls Try.prog 13 #[v, u] w fun e w' => e = .returned (.int .i64 (if R = R' ∧ C = C' then (cnt (fun i => imgF R C f i != imgF R' C' g i) 25 : Nat) else -1)) ∧ Below w.heap.size w w' := by
  have HI := hide hin; have HI2 := hide hin2; have H := hide h; have H' := hide h'
  clear hin hin2 h h'
  obtain ⟨b, hb⟩ : ∃ b : Bool, decide (R = R' ∧ C = C') = b := ⟨_, rfl⟩
  have HB := hide hb
  have HE : Hid ((if R = R' ∧ C = C' then ((cnt (fun i => imgF R C f i != imgF R' C' g i) 25 : Nat) : Int) else -1) = if b then ((cnt (fun i => imgF R C f i != imgF R' C' g i) 25 : Nat) : Int) else -1) := hide (by
    subst hb
    by_cases e : R = R' ∧ C = C'
    · rw [if_pos e, decide_eq_true e]; rfl
    · rw [if_neg e, decide_eq_false e]; rfl)
  rw [HE.out]
  clear hb HE
  obtain ⟨n, hn⟩ : ∃ n, n = cnt (fun i => imgF R C f i != imgF R' C' g i) 25 := ⟨_, rfl⟩
  have HN := hide hn.symm
  rw [← hn]
  clear hn
  go_enter Try.func13, Try.ntmps13
  go_wp2_with fail
  refine (imageOf_yes v R C f _ HI.out H.out).mono ?_
  rintro e w1 ⟨rfl, b1⟩
  have B1 := hide b1
  clear b1
  go_wp2_with (first | (with_reducible refine wpList_allocVec 25 5 rfl rfl rfl Try.zeroImg ?_; intro waa haa baa saa) | (with_reducible refine wpList_storeVec haa rfl (.tmp 5) (.tmp 14) rfl rfl rfl Try.sizeImg ?_; intro wba hba gba sba) | (with_reducible refine wpList_loadVec hba 99 rfl rfl _ rfl rfl Try.underlying65 Try.sizeImg ?_))
  have B2 := hide (B1.out.trans ((baa.mono B1.out.size).trans (grown_below gba (fun k hk => by cases hk; exact B1.out.size) (by have := B1.out.size; omega))))
  have HA := hide hba
  clear haa baa saa hba gba sba
  refine (imageOf_yes u R' C' g _ (inMat_below HI2.out B2.out) H'.out).mono ?_
  rintro e w3 ⟨rfl, b3⟩
  have B3 := hide (B2.out.trans (b3.mono B2.out.size))
  have HA := hide (blk_below HA.out b3)
  clear b3
  go_wp2_with (first | (with_reducible refine wpList_allocVec 25 7 rfl rfl rfl Try.zeroImg ?_; intro wab hab bab sab) | (with_reducible refine wpList_storeVec hab rfl (.tmp 7) (.tmp 19) rfl rfl rfl Try.sizeImg ?_; intro wbb hbb gbb sbb) | (with_reducible refine wpList_loadVec hbb 29 rfl rfl _ rfl rfl Try.underlying65 Try.sizeImg ?_) | (with_reducible refine wpList_loadVec (blk_grown (blk_below HA.out bab) gbb (by have := blk_lt HA.out; simp; omega)) 28 rfl rfl _ rfl rfl Try.underlying65 Try.sizeImg ?_))
  have B4 := hide (B3.out.trans ((bab.mono B3.out.size).trans (grown_below gbb (fun k hk => by cases hk; exact B3.out.size) (by have := B3.out.size; omega))))
  clear hab bab sab hbb gbb sbb HA
  refine (distance_img R C R' C' f g _ H.out H'.out b HB.out).mono ?_
  rw [HN.out]
  rintro e w5 ⟨rfl, b5⟩
  have B5 := hide (B4.out.trans (b5.mono B4.out.size))
  clear b5
  cases b with
  | false =>
    go_wp2
    go_ret
    exact ⟨rfl, B5.out⟩
  | true =>
    go_wp2
    go_ret
    exact ⟨rfl, B5.out⟩
end Go.Proofs.Ytpfaaglaeholbaa
