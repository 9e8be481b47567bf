/-
  Texts of this claim, one behind the other: PlaceI, SpecT, ColS, Eq, Same, Put, Dist, SpecD, SameS, SameB, Fix, ShIns.
-/
import Derived.Test.YtpfaaglaeholbaaGreatPackL
import Derived.Test.YtpfaaglaeholbaaGreatPackI
import Derived.Test.YtpfaaglaeholbaaGreatPackG
import Derived.Test.YtpfaaglaeholbaaGreatPackB
import Derived.Test.YtpfaaglaeholbaaGreatPackH
import Derived.Test.YtpfaaglaeholbaaGreatPackJ
import Derived.Ground.SlsfProg
import Derived.Shelf.SlSortCmp.Insertion
import Derived.Test.YtpfaaglaeholbaaGreatProg
/-
  CanPlace of the program.
-/
namespace Go.Proofs.YtpfaaglaeholbaaGreat
open Go.RowKit Go.Shelf Mx

set_option maxHeartbeats 400000 in
theorem placePred_any (u : Value) (row : List Int) (x : Nat) (v : Int) (qx qv : Nat) (w : World) (hvx : w.cell? ⟨qx, 0, none⟩ = some (.int .i64 x)) (hvv : w.cell? ⟨qv, 0, none⟩ = some (.int .i64 v)) (hU : InRow w u row) (hx : x < row.length) :
    Calls Tryz.prog 43 #[u, .pointer (some ⟨qx, 0, none⟩), .pointer (some ⟨qv, 0, none⟩)] w fun e w' => e = .returned (.bool (row.getD x 0 == v)) ∧ Below w.heap.size w w' := by
  have mixed : Tryz.prog.follows .mixedOrders = true := by kernel_rfl
  obtain ⟨a, c, rfl, hm, hp⟩ := hU
  obtain ⟨g, o, rfl, hg, hc⟩ := hp.resolve_left (by omega)
  have hcx := hc x hx
  have e1 : row.getD x 0 = row[x] := by rw [List.getD_eq_getElem?_getD, List.getElem?_eq_getElem hx]; rfl
  rw [e1]
  obtain ⟨z, hz⟩ : ∃ z, z = row[x] := ⟨_, rfl⟩
  rw [← hz] at hcx ⊢
  obtain ⟨n, hn⟩ : ∃ n, n = row.length := ⟨_, rfl⟩
  rw [← hn] at hx hm ⊢
  have hxI : (x : Int) < n := by omega
  clear hc hp e1 hz hn
  go_enter Tryz.func43, Tryz.ntmps43
  go_wp2
  go_quiet (fail)
  go_wp2
  go_ret
  exact ⟨rfl, below_draws (Below.refl _ _) _⟩
theorem place_out {r c : List Int} {y x v : Int} (h : ¬ (0 ≤ y ∧ y < r.length ∧ 0 ≤ x ∧ x < c.length)) : placeOf r c y x v = false := by
  unfold placeOf
  rw [decide_eq_false h]; simp
theorem place_no {r c : List Int} {y x v : Int} (h : existsOf r c = false) : placeOf r c y x v = false := by unfold placeOf; rw [h]; rfl
theorem place_in {r c : List Int} {y x : Nat} {v : Int} (h : existsOf r c = true) (hy : y < r.length) (hx : x < c.length) : placeOf r c y x v = (rowsAtL r c y).any fun row => row.getD x 0 == v := by
  unfold placeOf
  rw [h, decide_eq_true (by omega)]; simp
set_option maxHeartbeats 400000 in
theorem implPlace_no (va vb : Value) (r c : List Int) (y x v : Int) (w : World) (ha : InRow w va r) (hb : InRow w vb c) (h : existsOf r c = false) :
    Calls Tryz.prog 14 #[va, vb, .int .i64 y, .int .i64 x, .int .i64 v] w fun e w' => e = .returned (.bool (placeOf r c y x v)) ∧ Below w.heap.size w w' := by
  rw [place_no h]
  have HBX := hide (((Below.refl w.heap.size w).alloc (Nat.le_refl _) (.cells #[.int .i64 x] 3)).alloc (by simp) (.cells #[.int .i64 v] 3))
  have HE := hide (implExists_any va vb r c _ (inRow_below ha HBX.out) (inRow_below hb HBX.out))
  rw [h] at HE
  clear ha hb h
  go_enter Tryz.func14, Tryz.ntmps14
  go_wp2_with (go_at_call 30; refine HE.out.mono ?_; rintro e w1 ⟨rfl, b1⟩; have B1 := hide b1; clear b1)
  go_ret
  exact ⟨rfl, HBX.out.trans (B1.out.mono HBX.out.size)⟩
set_option maxHeartbeats 1000000 in
theorem implPlace_out (va vb : Value) (r c : List Int) (y x v : Int) (w : World) (ha : InRow w va r) (hb : InRow w vb c) (h : existsOf r c = true) (ho : ¬ (0 ≤ y ∧ y < r.length ∧ 0 ≤ x ∧ x < c.length)) :
    Calls Tryz.prog 14 #[va, vb, .int .i64 y, .int .i64 x, .int .i64 v] w fun e w' => e = .returned (.bool (placeOf r c y x v)) ∧ Below w.heap.size w w' := by
  rw [place_out ho]
  have HBX := hide (((Below.refl w.heap.size w).alloc (Nat.le_refl _) (.cells #[.int .i64 x] 3)).alloc (by simp) (.cells #[.int .i64 v] 3))
  have HX := hide (show ((w.alloc (.cells #[.int .i64 x] 3)).alloc (.cells #[.int .i64 v] 3)).cell? ⟨w.heap.size, 0, none⟩ = some (.int .i64 x) from below_cell ((Below.refl _ _).alloc (Nat.le_refl _) _) (by simp) (by simp [World.cell?_alloc_new]))
  have HS := hide (show w.heap.size < ((w.alloc (.cells #[.int .i64 x] 3)).alloc (.cells #[.int .i64 v] 3)).heap.size by simp; omega)
  have HE := hide (implExists_any va vb r c _ (inRow_below ha HBX.out) (inRow_below hb HBX.out))
  rw [h] at HE
  obtain ⟨xa, ca, rfl, hma, -⟩ := ha
  obtain ⟨xb, cb, rfl, hmb, -⟩ := hb
  unfold maxLen at hma hmb
  obtain ⟨R, hR⟩ : ∃ R, R = r.length := ⟨_, rfl⟩
  obtain ⟨C, hC⟩ : ∃ C, C = c.length := ⟨_, rfl⟩
  rw [← hR] at ho hma HE ⊢
  rw [← hC] at ho hmb HE ⊢
  clear h hR hC
  have hcases : y < 0 ∨ (0 ≤ y ∧ (R : Int) ≤ y) ∨ (0 ≤ y ∧ y < R ∧ x < 0) ∨ (0 ≤ y ∧ y < R ∧ 0 ≤ x ∧ (C : Int) ≤ x) := by omega
  clear ho
  rcases hcases with h1 | ⟨h1, h2⟩ | ⟨h1, h2, h3⟩ | ⟨h1, h2, h3, h4⟩
  all_goals
    go_enter Tryz.func14, Tryz.ntmps14
    go_wp2_with (go_at_call 30; refine HE.out.mono ?_; rintro e w1 ⟨rfl, b1⟩; have B1 := hide b1; have hx1 := below_cell b1 HS.out HX.out; clear b1)
    go_ret
    exact ⟨rfl, HBX.out.trans (B1.out.mono HBX.out.size)⟩
set_option maxHeartbeats 1000000 in
theorem implPlace_in (va vb : Value) (r c : List Int) (y x : Nat) (v : Int) (w : World) (ha : InRow w va r) (hb : InRow w vb c) (h : existsOf r c = true) (hy : y < r.length) (hx : x < c.length) :
    Calls Tryz.prog 14 #[va, vb, .int .i64 y, .int .i64 x, .int .i64 v] w fun e w' => e = .returned (.bool (placeOf r c y x v)) ∧ Below w.heap.size w w' := by
  rw [place_in h hy hx]
  have HBX := hide (((Below.refl w.heap.size w).alloc (Nat.le_refl _) (.cells #[.int .i64 x] 3)).alloc (by simp) (.cells #[.int .i64 v] 3))
  have HX := hide (show ((w.alloc (.cells #[.int .i64 x] 3)).alloc (.cells #[.int .i64 v] 3)).cell? ⟨w.heap.size, 0, none⟩ = some (.int .i64 x) from below_cell ((Below.refl _ _).alloc (Nat.le_refl _) _) (by simp) (by simp [World.cell?_alloc_new]))
  have HV := hide (show ((w.alloc (.cells #[.int .i64 x] 3)).alloc (.cells #[.int .i64 v] 3)).cell? ⟨w.heap.size + 1, 0, none⟩ = some (.int .i64 v) by
    have := World.cell?_alloc_new (w.alloc (.cells #[.int .i64 x] 3)) #[.int .i64 v] 3 0
    simp at this ⊢)
  have HS := hide (show w.heap.size + 1 < ((w.alloc (.cells #[.int .i64 x] 3)).alloc (.cells #[.int .i64 v] 3)).heap.size by simp)
  have HE := hide (implExists_any va vb r c _ (inRow_below ha HBX.out) (inRow_below hb HBX.out))
  rw [h] at HE
  obtain ⟨hr5, hc5, -, -, -⟩ := sumsOk_yes (existsOf_sums h)
  have hmid := mid_img hr5.2 hc5.2 (img_of_exists h)
  have HR := hide fun (w' : World) (hw : Below w.heap.size w w') => rowsAt_any va vb r c y w' (inRow_below ha hw) (inRow_below hb hw) hy hr5.2 hc5.1 hmid
  have HOK : Hid (∀ row ∈ rowsAtL r c y, row.length = c.length) := hide fun row hrow => ((mem_rowsL _ _ _).1 (List.mem_filter.1 hrow).1).1
  obtain ⟨xa, ca, rfl, hma, -⟩ := ha
  obtain ⟨xb, cb, rfl, hmb, -⟩ := hb
  unfold maxLen at hma hmb
  obtain ⟨R, hRR⟩ : ∃ R, R = r.length := ⟨_, rfl⟩
  obtain ⟨C, hCC⟩ : ∃ C, C = c.length := ⟨_, rfl⟩
  rw [← hRR] at hy hma HE HR ⊢
  rw [← hCC] at hx hmb HE HR HOK ⊢
  have hyI : (y : Int) < R := by omega
  have hxI : (x : Int) < C := by omega
  have HXC := hide hx
  clear h hRR hCC hmid hr5 hc5
  go_enter Tryz.func14, Tryz.ntmps14
  go_wp2_with (go_at_call 30; refine HE.out.mono ?_; rintro e w1 ⟨rfl, b1⟩; have B1 := hide (HBX.out.trans (b1.mono HBX.out.size)); have hx1 := below_cell b1 (Nat.lt_of_succ_lt HS.out) HX.out; have HX1 := hide hx1; have HV1 := hide (below_cell b1 HS.out HV.out); have HS1 := hide (Nat.lt_of_lt_of_le HS.out b1.size); clear b1)
  refine (HR.out _ B1.out).mono ?_
  rintro e w2 ⟨u, rfl, hm, hb⟩
  have HM := hide (inMat_matT hm); have HB2 := hide (B1.out.trans (hb.mono B1.out.size))
  have HX2 := hide (below_cell hb (Nat.lt_of_succ_lt HS1.out) HX1.out); have HV2 := hide (below_cell hb HS1.out HV1.out); have HS2 := hide (Nat.lt_of_lt_of_le HS1.out hb.size)
  clear hm hb
  have HCON := hide (containsRows_any u (rowsAtL r c y) 43 #[.pointer (some ⟨w.heap.size, 0, none⟩), .pointer (some ⟨w.heap.size + 1, 0, none⟩)] (fun row => row.length = C) (fun row => row.getD x 0 == v) w2 (enters_of Tryz.func43 (by kernel_rfl) rfl) HM.out HOK.out (fun row u w5 hr hw hu => placePred_any u row x v (w.heap.size) (w.heap.size + 1) w5 (below_cell hw (Nat.lt_of_succ_lt HS2.out) HX2.out) (below_cell hw HS2.out HV2.out) hu (by rw [hr]; exact HXC.out)))
  go_wp2_with (go_at_call 41; refine HCON.out.mono ?_; rintro e w3 ⟨rfl, b3⟩; have B3 := hide (HB2.out.trans (b3.mono HB2.out.size)); clear b3)
  go_ret
  exact ⟨rfl, B3.out⟩
theorem implPlace_any (va vb : Value) (r c : List Int) (y x v : Int) (w : World) (ha : InRow w va r) (hb : InRow w vb c) :
    Calls Tryz.prog 14 #[va, vb, .int .i64 y, .int .i64 x, .int .i64 v] w fun e w' => e = .returned (.bool (placeOf r c y x v)) ∧ Below w.heap.size w w' := by
  cases h : existsOf r c with
  | false => exact implPlace_no va vb r c y x v w ha hb h
  | true =>
    by_cases ho : 0 ≤ y ∧ y < r.length ∧ 0 ≤ x ∧ x < c.length
    · obtain ⟨h1, h2, h3, h4⟩ := ho
      obtain ⟨y', rfl⟩ : ∃ y' : Nat, y = y' := ⟨y.toNat, by omega⟩
      obtain ⟨x', rfl⟩ : ∃ x' : Nat, x = x' := ⟨x.toNat, by omega⟩
      exact implPlace_in va vb r c y' x' v w ha hb h (by omega) (by omega)
    · exact implPlace_out va vb r c y x v w ha hb h ho
end Go.Proofs.YtpfaaglaeholbaaGreat
/-
  TransposeOf, MirrorOf, InvertOf of the model.
-/
namespace Go.Proofs.YtpfaaglaeholbaaGreat
open Go.RowKit
set_option linter.unusedVariables false

def upTr (C : Nat) (f : Nat → Nat → Int) (y x a b : Nat) : Int := if b < y ∨ (b = y ∧ a < x) then f b a else 0
theorem upTr_zero (R C : Nat) (f : Nat → Nat → Int) : mkM C R zeroM = mkM C R (upTr C f 0 0) := mkM_congr fun a b ha hb => by rw [upTr, if_neg (by omega)]; rfl
theorem upTr_set (R C : Nat) (f : Nat → Nat → Int) (y x : Nat) (hy : y < R) (hx : x < C) (z : Int) (hz : f y x = z) :
    mkM C R (fun a b => if a = x ∧ b = y then z else upTr C f y x a b) = mkM C R (upTr C f y (x + 1)) := mkM_congr fun a b ha hb => by
  simp only [upTr]
  by_cases e : a = x ∧ b = y
  · obtain ⟨rfl, rfl⟩ := e
    rw [if_pos ⟨rfl, rfl⟩, if_pos (by omega), ← hz]
  · rw [if_neg e]
    by_cases hl : b < y ∨ (b = y ∧ a < x)
    · rw [if_pos hl, if_pos (by omega)]
    · rw [if_neg hl, if_neg (by omega)]
theorem upTr_next (R C : Nat) (f : Nat → Nat → Int) (y : Nat) (hy : y < R) : mkM C R (upTr C f y C) = mkM C R (upTr C f (y + 1) 0) := mkM_congr fun a b ha hb => by
  simp only [upTr]
  by_cases hl : b < y + 1
  · rw [if_pos (by omega), if_pos (by omega)]
  · rw [if_neg (by omega), if_neg (by omega)]
theorem upTr_all (R C : Nat) (f : Nat → Nat → Int) : mkM C R (upTr C f R 0) = mkM C R (trM f) := mkM_congr fun a b ha hb => by
  rw [upTr, if_pos (by omega)]; rfl
def upMi (C : Nat) (f : Nat → Nat → Int) (y x a b : Nat) : Int := if a < y ∨ (a = y ∧ C - 1 - b < x) then f a (C - 1 - b) else 0
theorem upMi_zero (R C : Nat) (f : Nat → Nat → Int) : mkM R C zeroM = mkM R C (upMi C f 0 0) := mkM_congr fun a b ha hb => by rw [upMi, if_neg (by omega)]; rfl
theorem upMi_set (R C : Nat) (f : Nat → Nat → Int) (y x : Nat) (hy : y < R) (hx : x < C) (z : Int) (hz : f y x = z) :
    mkM R C (fun a b => if a = y ∧ b = C - 1 - x then z else upMi C f y x a b) = mkM R C (upMi C f y (x + 1)) := mkM_congr fun a b ha hb => by
  simp only [upMi]
  by_cases e : a = y ∧ b = C - 1 - x
  · obtain ⟨rfl, rfl⟩ := e
    rw [if_pos ⟨rfl, rfl⟩, if_pos (by omega), ← hz]; rw [show C - 1 - (C - 1 - x) = x by omega]
  · rw [if_neg e]
    by_cases hl : a < y ∨ (a = y ∧ C - 1 - b < x)
    · rw [if_pos hl, if_pos (by omega)]
    · rw [if_neg hl, if_neg (by omega)]
theorem upMi_next (R C : Nat) (f : Nat → Nat → Int) (y : Nat) (hy : y < R) : mkM R C (upMi C f y C) = mkM R C (upMi C f (y + 1) 0) := mkM_congr fun a b ha hb => by
  simp only [upMi]
  by_cases hl : a < y + 1
  · rw [if_pos (by omega), if_pos (by omega)]
  · rw [if_neg (by omega), if_neg (by omega)]
theorem upMi_all (R C : Nat) (f : Nat → Nat → Int) : mkM R C (upMi C f R 0) = mkM R C (mirM C f) := mkM_congr fun a b ha hb => by
  rw [upMi, if_pos (by omega)]; rfl
def upIn (C : Nat) (f : Nat → Nat → Int) (y x a b : Nat) : Int := if a < y ∨ (a = y ∧ b < x) then 1 - f a b else 0
theorem upIn_zero (R C : Nat) (f : Nat → Nat → Int) : mkM R C zeroM = mkM R C (upIn C f 0 0) := mkM_congr fun a b ha hb => by rw [upIn, if_neg (by omega)]; rfl
theorem upIn_set (R C : Nat) (f : Nat → Nat → Int) (y x : Nat) (hy : y < R) (hx : x < C) (z : Int) (hz : 1 - f y x = z) :
    mkM R C (fun a b => if a = y ∧ b = x then z else upIn C f y x a b) = mkM R C (upIn C f y (x + 1)) := mkM_congr fun a b ha hb => by
  simp only [upIn]
  by_cases e : a = y ∧ b = x
  · obtain ⟨rfl, rfl⟩ := e
    rw [if_pos ⟨rfl, rfl⟩, if_pos (by omega), ← hz]
  · rw [if_neg e]
    by_cases hl : a < y ∨ (a = y ∧ b < x)
    · rw [if_pos hl, if_pos (by omega)]
    · rw [if_neg hl, if_neg (by omega)]
theorem upIn_next (R C : Nat) (f : Nat → Nat → Int) (y : Nat) (hy : y < R) : mkM R C (upIn C f y C) = mkM R C (upIn C f (y + 1) 0) := mkM_congr fun a b ha hb => by
  simp only [upIn]
  by_cases hl : a < y + 1
  · rw [if_pos (by omega), if_pos (by omega)]
  · rw [if_neg (by omega), if_neg (by omega)]
theorem upIn_all (R C : Nat) (f : Nat → Nat → Int) : mkM R C (upIn C f R 0) = mkM R C (invM f) := mkM_congr fun a b ha hb => by
  rw [upIn, if_pos (by omega)]; rfl
end Go.Proofs.YtpfaaglaeholbaaGreat
/-
  ColSums of both.
-/
namespace Go.Proofs.YtpfaaglaeholbaaGreat
open Go.RowKit

theorem implColSums_no (v : Value) (m : List (List Int)) (w : World) (hin : InMat w v m) (h : okB m = false) :
    Calls Tryz.prog 8 #[v] w (IntsRes [] w) := by
  have HI := hide hin; have H := hide h
  clear hin h
  go_enter Tryz.func8, Tryz.ntmps8
  go_wp2_with fail
  refine (implTransposeOf_no v m _ HI.out H.out).mono ?_
  rintro e w1 ⟨u, rfl, ho, hb⟩
  have HM := hide (inMat_own ho); have HB := hide hb
  clear ho hb
  go_wp2_with fail
  refine (implRowSums_no u [] _ HM.out (by decide)).mono ?_
  rintro e w2 ⟨u2, rfl, ho, hb⟩
  have HO := hide (own_base ho HB.out.size); have HB2 := hide (HB.out.trans (hb.mono HB.out.size))
  clear ho hb
  go_wp2
  go_ret
  exact ⟨_, rfl, HO.out, HB2.out⟩
theorem implColSums_yes (v : Value) (R C : Nat) (f : Nat → Nat → Int) (w : World) (hin : InMat w v (mkM R C f)) (hI : Img R C f) :
    Calls Tryz.prog 8 #[v] w (IntsRes (rowsL C R (trM f)) w) := by
  have HI := hide hin; have H := hide hI
  clear hin hI
  go_enter Tryz.func8, Tryz.ntmps8
  go_wp2_with fail
  refine (implTransposeOf_yes v R C f _ HI.out H.out).mono ?_
  rintro e w1 ⟨u, rfl, ho, hb⟩
  have HM := hide (inMat_own ho); have HB := hide hb
  clear ho hb
  go_wp2_with fail
  refine (implRowSums_yes u C R (trM f) _ HM.out (img_tr H.out)).mono ?_
  rintro e w2 ⟨u2, rfl, ho, hb⟩
  have HO := hide (own_base ho HB.out.size); have HB2 := hide (HB.out.trans (hb.mono HB.out.size))
  clear ho hb
  go_wp2
  go_ret
  exact ⟨_, rfl, HO.out, HB2.out⟩

end Go.Proofs.YtpfaaglaeholbaaGreat
/-
  Lists of integers held against one another: slices.Equal.
-/
namespace Go.Proofs.YtpfaaglaeholbaaGreat
open Go.RowKit

theorem sameRow_no {r s : List Int} (h : r.length ≠ s.length) : (r == s) = false := by
  rw [beq_eq_false_iff_ne]; intro e; exact h (by rw [e])
theorem sameRow_no2 {r s : List Int} (k : Nat) (hr : k < r.length) (hs : k < s.length) (h : r[k] ≠ s[k]) : (r == s) = false := by
  rw [beq_eq_false_iff_ne]; intro e; subst e; exact h rfl
theorem sameRow_yes {r s : List Int} (h : r.length = s.length) (h2 : ∀ k, (hr : k < r.length) → (hs : k < s.length) → r[k] = s[k]) : (r == s) = true := by
  rw [beq_iff_eq]; exact List.ext_getElem h h2
theorem sameMat_no {r s : List (List Int)} (h : r.length ≠ s.length) : (r == s) = false := by
  rw [beq_eq_false_iff_ne]; intro e; exact h (by rw [e])
theorem sameMat_no2 {r s : List (List Int)} (k : Nat) (hr : k < r.length) (hs : k < s.length) (h : (r[k] == s[k]) = false) : (r == s) = false := by
  rw [beq_eq_false_iff_ne] at h ⊢; intro e; subst e; exact h rfl
theorem sameMat_yes {r s : List (List Int)} (h : r.length = s.length) (h2 : ∀ k, (hr : k < r.length) → (hs : k < s.length) → (r[k] == s[k]) = true) : (r == s) = true := by
  rw [beq_iff_eq]; exact List.ext_getElem h fun k h1 h2' => by simpa using h2 k h1 h2'

set_option maxHeartbeats 1000000 in
theorem l02Same_any (va vb : Value) (r s : List Int) (w : World) (ha : InRow w va r) (hb : InRow w vb s) :
    Calls Tryz.prog 136 #[va, vb] w fun e w' => e = .returned (.bool (r == s)) ∧ w = w' := by
  obtain ⟨a, ca, rfl, hma, hpa⟩ := ha
  obtain ⟨b, cb, rfl, hmb, hpb⟩ := hb
  unfold maxLen at hma hmb
  by_cases hlen : r.length = s.length
  · by_cases h0 : r.length = 0
    · have hr : r = [] := List.eq_nil_of_length_eq_zero h0
      have hs : s = [] := List.eq_nil_of_length_eq_zero (by omega)
      subst hr; subst hs
      clear hpa hpb hma hmb hlen h0
      go_enter Tryz.func136, Tryz.ntmps136
      go_wp2
      go_loop [14] (fun i => i = .int .i64 0) (fun _ => 0)
      case atStart => rfl
      case round =>
        obtain rfl := hrel
        go_wp2
        go_ret
        exact ⟨rfl, rfl⟩
    · obtain ⟨ga, oa, rfl, -, hca⟩ := hpa.resolve_left h0
      obtain ⟨gb, ob, rfl, -, hcb⟩ := hpb.resolve_left (by omega)
      have HA := hide hca; have HB := hide hcb; have HL := hide hlen
      obtain ⟨n, hn⟩ : ∃ n, n = r.length := ⟨_, rfl⟩
      have HN := hide hn
      have HM : Hid (s.length = n) := hide (by omega)
      rw [← hlen, ← hn]
      rw [← hn] at hma
      clear hpa hpb hca hcb h0 hmb hlen hn
      go_enter Tryz.func136, Tryz.ntmps136
      go_wp2
      go_loop [14] (fun i => ∃ k : Nat, k ≤ n ∧ i = .int .i64 k ∧ ∀ t, (h1 : t < r.length) → (h2 : t < s.length) → t < k → r[t] = s[t]) (fun i => n - (intOf i).toNat)
      case atStart => exact ⟨0, Nat.zero_le _, rfl, fun t _ _ h => absurd h (Nat.not_lt_zero _)⟩
      case round =>
        obtain ⟨k, hk, rfl, hall⟩ := hrel
        have HH := hide hall
        clear hall
        by_cases hlt : k < n
        · have hkr : k < r.length := by rw [← HN.out]; exact hlt
          have hks : k < s.length := by rw [HM.out]; exact hlt
          have hxa := HA.out k hkr
          have hxb := HB.out k hks
          have HNO := hide (fun h => sameRow_no2 k hkr hks h)
          have HST : Hid (r[k] = s[k] → ∀ t, (h1 : t < r.length) → (h2 : t < s.length) → t < k + 1 → r[t] = s[t]) := hide fun h t h1 h2 ht => by
            by_cases e : t = k
            · subst e; exact h
            · exact HH.out t h1 h2 (by omega)
          obtain ⟨x, hx⟩ : ∃ x, x = r[k] := ⟨_, rfl⟩
          obtain ⟨y, hy⟩ : ∃ y, y = s[k] := ⟨_, rfl⟩
          rw [← hx, ← hy] at HNO HST
          rw [← hx] at hxa
          rw [← hy] at hxb
          clear hx hy
          by_cases e : x = y
          · subst e
            have HST := hide (HST.out rfl)
            go_wp2
            go_round
            case rel => exact ⟨k + 1, by omega, by go_num, HST.out⟩
            case measure => simp [intOf]; omega
          · have HF := hide (HNO.out e)
            have hne : (x == y) = false := by simpa using e
            have hne2 : (x != y) = true := by simpa using e
            clear e
            go_wp2
            go_ret
            exact ⟨ret_bool HF.out.symm, rfl⟩
        · have HY := hide (sameRow_yes HL.out fun t h1 h2 => HH.out t h1 h2 (by have := HN.out; omega))
          go_wp2
          go_ret
          exact ⟨ret_bool HY.out.symm, rfl⟩
  · have HF := hide (sameRow_no hlen)
    obtain ⟨n, hn⟩ : ∃ n, n = r.length := ⟨_, rfl⟩
    obtain ⟨k, hk⟩ : ∃ k, k = s.length := ⟨_, rfl⟩
    rw [← hn, ← hk] at hlen ⊢
    rw [← hn] at hma
    rw [← hk] at hmb
    have hne : ((n : Int) == (k : Int)) = false := by simp; omega
    have hne2 : ((n : Int) != (k : Int)) = true := by simp; omega
    clear hpa hpb hn hk hlen
    go_enter Tryz.func136, Tryz.ntmps136
    go_wp2
    go_ret
    exact ⟨ret_bool HF.out.symm, rfl⟩

end Go.Proofs.YtpfaaglaeholbaaGreat
/-
  SameImage, of the model and of the program, and the exact law, walked.
-/
namespace Go.Proofs.YtpfaaglaeholbaaGreat
open Go.RowKit

set_option maxHeartbeats 1000000 in
theorem specSameImage_any (va vb : Value) (m l : List (List Int)) (w : World) (ha : InMat w va m) (hb : InMat w vb l) :
    Calls Tryz.prog 120 #[va, vb] w fun e w' => e = .returned (.bool (m == l)) ∧ Below w.heap.size w w' := by
  obtain ⟨a, ca, rfl, hma, hpa⟩ := ha
  obtain ⟨b, cb, rfl, hmb, hpb⟩ := hb
  unfold maxLen at hma hmb
  by_cases hlen : m.length = l.length
  · by_cases h0 : m.length = 0
    · have hr : m = [] := List.eq_nil_of_length_eq_zero h0
      have hs : l = [] := List.eq_nil_of_length_eq_zero (by omega)
      subst hr; subst hs
      clear hpa hpb hma hmb hlen h0
      go_enter Tryz.func120, Tryz.ntmps120
      go_wp2
      go_loop [14] (fun i => i = .int .i64 0) (fun _ => 0)
      case atStart => rfl
      case round =>
        obtain rfl := hrel
        go_wp2
        go_ret
        exact ⟨rfl, Below.refl _ _⟩
    · obtain ⟨ga, oa, rfl, hga, hca⟩ := hpa.resolve_left h0
      obtain ⟨gb, ob, rfl, hgb, hcb⟩ := hpb.resolve_left (by omega)
      have HA := hide hca; have HB := hide hcb; have HL := hide hlen
      obtain ⟨n, hn⟩ : ∃ n, n = m.length := ⟨_, rfl⟩
      have HN := hide hn
      have HM : Hid (l.length = n) := hide (by omega)
      rw [← hlen, ← hn]
      rw [← hn] at hma
      clear hpa hpb hca hcb h0 hmb hlen hn
      go_enter Tryz.func120, Tryz.ntmps120
      go_wp2
      go_loopw [14] (fun i w' => ∃ k : Nat, k ≤ n ∧ i = .int .i64 k ∧ (∀ t, (h1 : t < m.length) → (h2 : t < l.length) → t < k → (m[t] == l[t]) = true) ∧ Below w.heap.size w w') (fun i _ => n - (intOf i).toNat)
      case atStart => exact ⟨0, Nat.zero_le _, rfl, fun t _ _ h => absurd h (Nat.not_lt_zero _), Below.refl _ _⟩
      case round =>
        obtain ⟨k, hk, rfl, hall, hbb⟩ := hrel
        have HH := hide hall; have HBB := hide hbb
        clear hall hbb
        by_cases hlt : k < n
        · have hkr : k < m.length := by rw [← HN.out]; exact hlt
          have hks : k < l.length := by rw [HM.out]; exact hlt
          obtain ⟨ua, hxa, hra⟩ := HA.out k hkr
          obtain ⟨ub, hxb, hrb⟩ := HB.out k hks
          have hxa := below_cell HBB.out hga hxa
          have hxb := below_cell HBB.out hgb hxb
          have HRA := hide (inRow_below hra HBB.out)
          have HRB := hide (inRow_below hrb HBB.out)
          have HNO := hide (fun h => sameMat_no2 k hkr hks h)
          have HST : Hid ((m[k] == l[k]) = true → ∀ t, (h1 : t < m.length) → (h2 : t < l.length) → t < k + 1 → (m[t] == l[t]) = true) := hide fun h t h1 h2 ht => by
            by_cases e : t = k
            · subst e; exact h
            · exact HH.out t h1 h2 (by omega)
          clear hra hrb
          cases e : (m[k] == l[k]) with
          | true =>
            have HE := hide e
            have HST := hide (HST.out e)
            clear e
            go_wp2_with (go_at_call 136; refine (l02Same_any _ _ _ _ _ HRA.out HRB.out).mono ?_; rw [HE.out]; rintro e w9 ⟨rfl, rfl⟩)
            go_roundw
            case rel => exact ⟨k + 1, by omega, by go_num, HST.out, HBB.out⟩
            case measure => simp [intOf]; omega
          | false =>
            have HE := hide e
            have HF := hide (HNO.out e)
            clear e
            go_wp2_with (go_at_call 136; refine (l02Same_any _ _ _ _ _ HRA.out HRB.out).mono ?_; rw [HE.out]; rintro e w9 ⟨rfl, rfl⟩)
            go_ret
            exact ⟨ret_bool HF.out.symm, HBB.out⟩
        · have HY := hide (sameMat_yes HL.out fun t h1 h2 => HH.out t h1 h2 (by have := HN.out; omega))
          go_wp2
          go_ret
          exact ⟨ret_bool HY.out.symm, HBB.out⟩
  · have HF := hide (sameMat_no hlen)
    obtain ⟨n, hn⟩ : ∃ n, n = m.length := ⟨_, rfl⟩
    obtain ⟨k, hk⟩ : ∃ k, k = l.length := ⟨_, rfl⟩
    rw [← hn, ← hk] at hlen ⊢
    rw [← hn] at hma
    rw [← hk] at hmb
    have hne : ((n : Int) == (k : Int)) = false := by simp; omega
    have hne2 : ((n : Int) != (k : Int)) = true := by simp; omega
    clear hpa hpb hn hk hlen
    go_enter Tryz.func120, Tryz.ntmps120
    go_wp2
    go_ret
    exact ⟨ret_bool HF.out.symm, Below.refl _ _⟩

end Go.Proofs.YtpfaaglaeholbaaGreat
/-
  PutCell and DistanceOf of the program.
-/
namespace Go.Proofs.YtpfaaglaeholbaaGreat
open Go.RowKit

/-- The whole variable is read, behind a guard that says yes. -/
theorem wpList_loadVecG {P : Program} {ops : Array Oper} {rest : List Oper} {o : Oper} {a : Act} {Q : Exit → Act → World → Prop} {W : World} {g n m : Nat} {T T' e : TypeId} {F : Nat → Int} (hb : Blk W g T n F) (d : Tmp) (_hd : o.dst = some d)
    (hw : Region.wanted o (yielded ops a.tmps) = true) (x : Operand) (ho : o.op = .load T' x) (hx : a.eval x = .pointer (some ⟨g, 0, none⟩)) (hu : P.underlying T' = some (.array m e)) (hi : (P.info? T').map (·.size) = some n)
    (h : wpList P ops Q rest (a.put o.dst (.agg (vec n F))) W) : wpList P ops Q (o :: rest) a W :=
  BigFrame.wpList_want hw fun K hK => wp_load_row T' x ho g hx T (vec n F) (0, 0) _ hb hu rfl (by rw [hi, vec_size]) (hK _ _ h)

/-- The image with another cell. -/
def putM (f : Nat → Nat → Int) (a b : Nat) (c : Int) (y x : Nat) : Int := if y = a ∧ x = b then c else f y x
theorem img_put {R C : Nat} {f : Nat → Nat → Int} (h : Img R C f) (a b : Nat) {c : Int} (hc : c = 0 ∨ c = 1) : Img R C (putM f a b c) := ⟨h.r1, h.r2, h.c1, h.c2, fun y x hy hx => by
  unfold putM; split
  · exact hc
  · exact h.cell y x hy hx⟩
theorem imgF_put (R C : Nat) (f : Nat → Nat → Int) (a b : Nat) (c : Int) (ha : a < R) (hb : b < C) (hC : C ≤ 5) : ∀ i, i < 25 → (if i = 5 * a + b then c else imgF R C f i) = imgF R C (putM f a b c) i := fun i hi => by
  simp only [imgF, putM]
  by_cases e : i = 5 * a + b
  · subst e
    rw [if_pos rfl, if_pos (by omega), if_pos (by omega)]
  · rw [if_neg e]
    by_cases h : i / 5 < R ∧ i % 5 < C
    · rw [if_pos h, if_pos h, if_neg (by omega)]
    · rw [if_neg h, if_neg h]

end Go.Proofs.YtpfaaglaeholbaaGreat
/-
  DistanceOf of the program.
-/
namespace Go.Proofs.YtpfaaglaeholbaaGreat
open Go.RowKit

theorem imageOf_any (v : Value) (m : List (List Int)) (w : World) (hin : InMat w v m) :
    Calls Tryz.prog 53 #[v] w fun e w' => (∃ F, e = .returned (.tuple #[.agg (vec 25 F), .bool (okB m)])) ∧ Below w.heap.size w w' := by
  cases h : okB m with
  | false =>
    refine (imageOf_no v m w hin h).mono ?_
    rintro e w' ⟨rfl, hb⟩
    exact ⟨⟨_, rfl⟩, hb⟩
  | true =>
    obtain ⟨R, C, f, rfl, hI⟩ := ok_img h
    refine (imageOf_yes v R C f w hin hI).mono ?_
    rintro e w' ⟨rfl, hb⟩
    exact ⟨⟨_, rfl⟩, hb⟩
theorem imgF_none {R C : Nat} {f : Nat → Nat → Int} (h : Img R C f) (i : Nat) : imgF R C f i = -1 ↔ ¬ (i / 5 < R ∧ i % 5 < C) := by
  unfold imgF
  by_cases hi : i / 5 < R ∧ i % 5 < C
  · rw [if_pos hi]
    constructor
    · intro e; rcases h.cell _ _ hi.1 hi.2 with e' | e' <;> rw [e'] at e <;> cases e
    · intro e; exact absurd hi e
  · rw [if_neg hi]; exact ⟨fun _ => hi, fun _ => rfl⟩
theorem same_sizes {R C R' C' : Nat} {f g : Nat → Nat → Int} (h : Img R C f) (h' : Img R' C' g) : decide (R = R' ∧ C = C') = true ↔ ∀ i, i < 25 → (imgF R C f i = -1 ↔ imgF R' C' g i = -1) := by
  have a1 := h.r1; have a2 := h.r2; have a3 := h.c1; have a4 := h.c2
  have b1 := h'.r1; have b2 := h'.r2; have b3 := h'.c1; have b4 := h'.c2
  rw [decide_eq_true_eq]
  constructor
  · rintro ⟨rfl, rfl⟩ i hi
    rw [imgF_none h, imgF_none h']
  · intro hall
    have hq : ∀ y x, y < 5 → x < 5 → ((y < R ∧ x < C) ↔ (y < R' ∧ x < C')) := fun y x hy hx => by
      have := hall (5 * y + x) (by omega)
      rw [imgF_none h, imgF_none h', show (5 * y + x) / 5 = y by omega, show (5 * y + x) % 5 = x by omega] at this
      exact ⟨fun h1 => Decidable.byContradiction fun n => (this.2 n) h1, fun h1 => Decidable.byContradiction fun n => (this.1 n) h1⟩
    constructor
    · by_cases l : R < R'
      · have := (hq R 0 (by omega) (by omega)).2 ⟨l, by omega⟩; omega
      · by_cases l2 : R' < R
        · have := (hq R' 0 (by omega) (by omega)).1 ⟨l2, by omega⟩; omega
        · omega
    · by_cases l : C < C'
      · have := (hq 0 C (by omega) (by omega)).2 ⟨by omega, l⟩; omega
      · by_cases l2 : C' < C
        · have := (hq 0 C' (by omega) (by omega)).1 ⟨by omega, l2⟩; omega
        · omega
end Go.Proofs.YtpfaaglaeholbaaGreat
/-
  DistanceOf of the model.
-/
namespace Go.Proofs.YtpfaaglaeholbaaGreat
open Go.RowKit

theorem ok_quiet (v : Value) (m : List (List Int)) (w : World) (n : Nat) (b : Bool) (hin : InMat w v m) (hb : okB m = b) :
    Calls Tryz.prog 46 #[v] (w.drewN n) fun e w'' => e = .returned (.bool b) ∧ ∃ k, w'' = w.drewN k := by
  refine Calls.quiet_of_same ((specImageOk_any v m (w.drewN n) hin).mono ?_)
  rintro e w' ⟨rfl, rfl⟩
  exact ⟨by rw [hb], rfl⟩

end Go.Proofs.YtpfaaglaeholbaaGreat
/-
  SameSums of both.
-/
namespace Go.Proofs.YtpfaaglaeholbaaGreat
open Go.RowKit Go.Maps

/-- The rows' and the columns' directions. -/
def rc : List (Int × Int) := [(1, 0), (0, 1)]
theorem lines_row (R C : Nat) (f : Nat → Nat → Int) (n : Int) : linesC C f (R * C) ⟨1, 0, n⟩ rc = if 0 ≤ n ∧ n < R then ((rs C f n.toNat : Nat) : Int) else 0 := by
  have h : lineC C f (1, 0) (R * C) ⟨1, 0, n⟩ = (cnt (onL C f (1, 0) n) (C * R) : Nat) := by rw [Nat.mul_comm R C]; exact if_pos ⟨rfl, rfl⟩
  have h2 : lineC C f (0, 1) (R * C) ⟨1, 0, n⟩ = 0 := if_neg (fun h => by cases h.1)
  rw [rc, linesC, linesC, linesC, h, h2, cnt_rows]
  split <;> simp
theorem lines_col (R C : Nat) (f : Nat → Nat → Int) (n : Int) : linesC C f (R * C) ⟨0, 1, n⟩ rc = if 0 ≤ n ∧ n < C then ((cs R f (C - 1 - n.toNat) : Nat) : Int) else 0 := by
  have h : lineC C f (0, 1) (R * C) ⟨0, 1, n⟩ = (cnt (onL C f (0, 1) n) (C * R) : Nat) := by rw [Nat.mul_comm R C]; exact if_pos ⟨rfl, rfl⟩
  have h2 : lineC C f (1, 0) (R * C) ⟨0, 1, n⟩ = 0 := if_neg (fun h => by cases h.1)
  rw [rc, linesC, linesC, linesC, h, h2, cnt_cols]
  split <;> simp
theorem lines_none (C : Nat) (f : Nat → Nat → Int) (N : Nat) (k : Key) (h1 : ¬ (k.x = 1 ∧ k.y = 0)) (h2 : ¬ (k.x = 0 ∧ k.y = 1)) : linesC C f N k rc = 0 := by
  simp only [rc, linesC, lineC]
  rw [if_neg h1, if_neg h2]; rfl
theorem rowsL_eq {R C : Nat} {f g : Nat → Nat → Int} : (rowsL R C f == rowsL R C g) = true ↔ ∀ y, y < R → rs C f y = rs C g y := by
  rw [beq_iff_eq]
  constructor
  · intro h y hy
    have h1 := congrArg (fun l => l[y]?) h
    simp only [rowsL, rowF, List.getElem?_map, List.getElem?_range hy, Option.map_some, Option.some.injEq] at h1
    omega
  · intro h
    exact rowF_congr fun y hy => by rw [h y hy]
def sameL (R C : Nat) (f g : Nat → Nat → Int) : Bool := (rowsL R C f == rowsL R C g) && (rowsL C R (trM f) == rowsL C R (trM g))
theorem same_lines {R C : Nat} {f g : Nat → Nat → Int} (hR : R ≤ 5) (hC : C ≤ 5) : (∀ k : Key, k.wf → thereK (fun k => linesC C f (R * C) k rc - linesC C g (R * C) k rc) k = false) ↔ sameL R C f g = true := by
  have hcs : ∀ (f : Nat → Nat → Int) x, rs R (trM f) x = cs R f x := fun _ _ => rfl
  unfold sameL
  rw [Bool.and_eq_true, rowsL_eq, rowsL_eq]
  constructor
  · intro h
    have h0 : ∀ k : Key, k.wf → linesC C f (R * C) k rc = linesC C g (R * C) k rc := fun k hk => by
      have := h k hk
      simp only [thereK, decide_eq_false_iff_not, ne_eq, Decidable.not_not] at this
      omega
    refine ⟨fun y hy => ?_, fun x hx => ?_⟩
    · have := h0 ⟨1, 0, y⟩ (key_wf (by decide) (by decide) (WalkArith.wf_i64 (by omega)))
      rw [lines_row, lines_row, if_pos (by omega), if_pos (by omega)] at this
      have e : ((y : Int)).toNat = y := by omega
      rw [e] at this; omega
    · rw [hcs, hcs]
      have := h0 ⟨0, 1, (C - 1 - x : Nat)⟩ (key_wf (by decide) (by decide) (WalkArith.wf_i64 (by omega)))
      rw [lines_col, lines_col, if_pos (by omega), if_pos (by omega)] at this
      have e : C - 1 - (((C - 1 - x : Nat) : Int)).toNat = x := by omega
      rw [e] at this; omega
  · rintro ⟨h1, h2⟩ k -
    simp only [thereK, decide_eq_false_iff_not, ne_eq, Decidable.not_not]
    obtain ⟨kx, ky, n⟩ := k
    by_cases e1 : kx = 1 ∧ ky = 0
    · obtain ⟨rfl, rfl⟩ := e1
      rw [lines_row, lines_row]
      split
      · rename_i hn; rw [h1 n.toNat (by omega)]; omega
      · rfl
    · by_cases e2 : kx = 0 ∧ ky = 1
      · obtain ⟨rfl, rfl⟩ := e2
        rw [lines_col, lines_col]
        split
        · rename_i hn
          have := h2 (C - 1 - n.toNat) (by omega)
          rw [hcs, hcs] at this
          rw [this]; omega
        · rfl
      · rw [lines_none C f (R * C) _ e1 e2, lines_none C g (R * C) _ e1 e2]; rfl

theorem iok_quiet (v : Value) (m : List (List Int)) (w : World) (n : Nat) (b : Bool) (hin : InMat w v m) (hb : okB m = b) :
    Calls Tryz.prog 34 #[v] (w.drewN n) fun e w'' => e = .returned (.bool b) ∧ ∃ k, w'' = w.drewN k := by
  refine Calls.quiet_of_same ((implImageOk_any v m (w.drewN n) hin).mono ?_)
  rintro e w' ⟨rfl, rfl⟩
  exact ⟨by rw [hb], rfl⟩
set_option maxRecDepth 100000 in
set_option maxHeartbeats 1000000 in
theorem implSameSums_no (v u : Value) (m l : List (List Int)) (w : World) (hin : InMat w v m) (hin2 : InMat w u l) (h : (okB m && okB l) = false) :
    Calls Tryz.prog 11 #[v, u] w fun e w' => e = .returned (.bool false) ∧ Below w.heap.size w w' := by
  have HI := hide hin; have HJ := hide hin2
  clear hin hin2
  cases h1 : okB m with
  | false =>
    have H1 := hide h1
    clear h h1
    go_enter Tryz.func11, Tryz.ntmps11
    go_wp2
    go_quiet ((go_at_call 34; exact iok_quiet _ m _ _ false HI.out H1.out))
    go_wp2
    go_ret
    exact ⟨rfl, below_draws (Below.refl _ _) _⟩
  | true =>
    have h2 : okB l = false := by rw [h1] at h; simpa using h
    have H1 := hide h1; have H2 := hide h2
    clear h h1 h2
    go_enter Tryz.func11, Tryz.ntmps11
    go_wp2
    go_quiet ((go_at_call 34; (first | with_reducible exact iok_quiet v m _ _ true HI.out H1.out | with_reducible exact iok_quiet u l _ _ false HJ.out H2.out)))
    go_wp2
    go_ret
    exact ⟨rfl, below_draws (Below.refl _ _) _⟩
set_option maxRecDepth 100000 in
set_option maxHeartbeats 1000000 in
theorem implSameSums_rows (v u : Value) (R C R' C' : Nat) (f g : Nat → Nat → Int) (w : World) (hin : InMat w v (mkM R C f)) (hin2 : InMat w u (mkM R' C' g)) (hI : Img R C f) (hI' : Img R' C' g) (hne : R ≠ R') :
    Calls Tryz.prog 11 #[v, u] w fun e w' => e = .returned (.bool false) ∧ Below w.heap.size w w' := by
  have HI := hide hin; have HJ := hide hin2; have H1 := hide (img_ok hI); have H2 := hide (img_ok hI')
  have hR1 := hI.r1; have hC1 := hI.c1; have hR := hI.r2; have hC := hI.c2
  have hR1' := hI'.r1; have hC1' := hI'.c1; have hR' := hI'.r2; have hC' := hI'.c2
  obtain ⟨ga, oa, ca, rfl, hga, -⟩ := inMat_img hin (by omega) (by omega)
  obtain ⟨gb, ob, cb, rfl, hgb, -⟩ := inMat_img hin2 (by omega) (by omega)
  have q1 : ((R : Int) == (R' : Int)) = false := by simp; omega
  have q2 : ((R : Int) != (R' : Int)) = true := by simp; omega
  clear hin hin2 hI hI' hne
  go_enter Tryz.func11, Tryz.ntmps11
  go_wp2
  go_quiet ((go_at_call 34; (first | with_reducible exact iok_quiet (.slice (some ⟨ga, oa, none⟩) R ca) _ _ _ true HI.out H1.out | with_reducible exact iok_quiet (.slice (some ⟨gb, ob, none⟩) R' cb) _ _ _ true HJ.out H2.out)))
  go_wp2
  go_ret
  exact ⟨rfl, below_draws (Below.refl _ _) _⟩
set_option maxRecDepth 100000 in
set_option maxHeartbeats 1000000 in
theorem implSameSums_cols (v u : Value) (R C C' : Nat) (f g : Nat → Nat → Int) (w : World) (hin : InMat w v (mkM R C f)) (hin2 : InMat w u (mkM R C' g)) (hI : Img R C f) (hI' : Img R C' g) (hne : C ≠ C') :
    Calls Tryz.prog 11 #[v, u] w fun e w' => e = .returned (.bool false) ∧ Below w.heap.size w w' := by
  have HI := hide hin; have HJ := hide hin2; have H1 := hide (img_ok hI); have H2 := hide (img_ok hI')
  have hR1 := hI.r1; have hC1 := hI.c1; have hR := hI.r2; have hC := hI.c2
  have hR1' := hI'.r1; have hC1' := hI'.c1; have hR' := hI'.r2; have hC' := hI'.c2
  obtain ⟨ga, oa, ca, rfl, hga, ha⟩ := inMat_img hin (by omega) (by omega)
  obtain ⟨gb, ob, cb, rfl, hgb, hb⟩ := inMat_img hin2 (by omega) (by omega)
  obtain ⟨ga', oa', ca', hxa, -, -⟩ := ha 0 (by omega)
  obtain ⟨gb', ob', cb', hxb, -, -⟩ := hb 0 (by omega)
  rw [Nat.add_zero] at hxa hxb
  have q1 : ((C : Int) == (C' : Int)) = false := by simp; omega
  have q2 : ((C : Int) != (C' : Int)) = true := by simp; omega
  have q3 : ((R : Int) != (R : Int)) = false := by simp
  have hR0 : 0 < R := by omega
  clear hin hin2 hI hI' hne ha hb
  go_enter Tryz.func11, Tryz.ntmps11
  go_wp2
  go_quiet ((go_at_call 34; (first | with_reducible exact iok_quiet (.slice (some ⟨ga, oa, none⟩) R ca) _ _ _ true HI.out H1.out | with_reducible exact iok_quiet (.slice (some ⟨gb, ob, none⟩) R cb) _ _ _ true HJ.out H2.out)))
  go_wp2
  go_ret
  exact ⟨rfl, below_draws (Below.refl _ _) _⟩
set_option maxRecDepth 100000 in
set_option maxHeartbeats 2000000 in
theorem implSameSums_same (v u : Value) (R C : Nat) (f g : Nat → Nat → Int) (w : World) (hin : InMat w v (mkM R C f)) (hin2 : InMat w u (mkM R C g)) (hI : Img R C f) (hI' : Img R C g) :
    Calls Tryz.prog 11 #[v, u] w fun e w' => e = .returned (.bool (sameL R C f g)) ∧ Below w.heap.size w w' := by
  have HI := hide hin; have HJ := hide hin2; have H1 := hide (img_ok hI); have H2 := hide (img_ok hI')
  have HA := hide hI; have HB := hide hI'
  have hR1 := hI.r1; have hC1 := hI.c1; have hR := hI.r2; have hC := hI.c2
  obtain ⟨ga, oa, ca, rfl, hga, ha⟩ := inMat_img hin (by omega) (by omega)
  obtain ⟨gb, ob, cb, rfl, hgb, hb⟩ := inMat_img hin2 (by omega) (by omega)
  obtain ⟨ga', oa', ca', hxa, -, -⟩ := ha 0 (by omega)
  obtain ⟨gb', ob', cb', hxb, -, -⟩ := hb 0 (by omega)
  rw [Nat.add_zero] at hxa hxb
  have q2 : ((C : Int) != (C : Int)) = false := by simp
  have q3 : ((R : Int) != (R : Int)) = false := by simp
  have hR0 : 0 < R := by omega
  have HSL := hide (same_lines (f := f) (g := g) hR hC)
  have HND : Hid (∀ d ∈ rc, Near d.1 d.2) := hide (by
    intro d hd
    simp only [rc, List.mem_cons, List.not_mem_nil, or_false] at hd
    rcases hd with rfl | rfl <;> exact ⟨by decide, by decide, by decide, by decide⟩)
  have HRG : Hid (∀ (h : Nat → Nat → Int) (k : Key), 0 ≤ linesC C h (R * C) k rc ∧ linesC C h (R * C) k rc ≤ 1000) := hide fun h k => by
    have h1 := linesC_range C h (R * C) k rc
    have h2 : ((R * C : Nat) : Int) * (rc.length : Int) ≤ 50 := by
      have : R * C * rc.length ≤ 25 * 2 := Nat.mul_le_mul (Nat.mul_le_mul hR hC) (by decide)
      exact_mod_cast this
    omega
  clear hin hin2 hI hI' ha hb
  go_enter Tryz.func11, Tryz.ntmps11
  go_wp2
  go_quiet ((go_at_call 34; (first | with_reducible exact iok_quiet (.slice (some ⟨ga, oa, none⟩) R ca) _ _ _ true HI.out H1.out | with_reducible exact iok_quiet (.slice (some ⟨gb, ob, none⟩) R cb) _ _ _ true HJ.out H2.out)))
  go_wp2_with fail
  refine (alongRows_any _).mono ?_
  rintro e w1 ⟨rfl, hb⟩
  have HB1 := hide ((below_draws (Below.refl w.heap.size w) nq).trans hb); clear hb
  go_wp2_with fail
  refine (alongCols_any _).mono ?_
  rintro e w2 ⟨rfl, hb⟩
  have HB2 := hide (HB1.out.trans (hb.mono HB1.out.size)); clear hb
  have HB3 := hide (HB2.out.alloc HB2.out.size (.cells #[.int .i64 1, .int .i64 0, .int .i64 0, .int .i64 1] 46))
  go_wp2_with fail
  refine (lineMapOf_any _ _ R C f rc _ (inMat_below HI.out HB3.out) HA.out (inDirs2 w2 1 0 0 1) (by decide) HND.out).mono ?_
  rintro e w4 ⟨b1, rfl, hg1, hl, hb⟩
  have hbw1 := lm_lt hl
  have HL4 := hide hl; have HB4 := hide (HB3.out.trans (hb.mono HB3.out.size)); have hbW : w.heap.size ≤ b1 := Nat.le_trans HB3.out.size hg1
  clear hl hb hg1
  go_wp2_with fail
  refine (alongRows_any _).mono ?_
  rintro e w5 ⟨rfl, hb⟩
  have HL5 := hide (lm_below HL4.out hb); have hs5 := hb.size; have HB5 := hide (HB4.out.trans (hb.mono HB4.out.size)); clear hb
  go_wp2_with fail
  refine (alongCols_any _).mono ?_
  rintro e w6 ⟨rfl, hb⟩
  have HL6 := hide (lm_below HL5.out hb); have hs6 := hb.size; have HB6 := hide (HB5.out.trans (hb.mono HB5.out.size)); clear hb
  have hal : Below w6.heap.size w6 (w6.alloc (.cells #[.int .i64 1, .int .i64 0, .int .i64 0, .int .i64 1] 46)) := (Below.refl _ _).alloc (Nat.le_refl _) _
  have HL7 := hide (lm_below HL6.out hal); have HB7 := hide (HB6.out.trans (hal.mono HB6.out.size)); have hs7 := hal.size
  clear hal
  go_wp2_with fail
  refine (lineMapOf_any _ _ R C g rc _ (inMat_below HJ.out HB7.out) HB.out (inDirs2 w6 1 0 0 1) (by decide) HND.out).mono ?_
  rintro e w8 ⟨b2, rfl, hg2, hl, hb⟩
  have hne : b1 ≠ b2 := by omega
  have HL8 := hide (lm_below HL7.out hb); have HM8 := hide hl; have HB8 := hide (HB7.out.trans (hb.mono HB7.out.size))
  clear hl hb hg2 hs5 hs6 hs7
  go_wp2_with fail
  refine (cancel_any b1 b2 50 50 _ _ _ _ HL8.out HM8.out hne (by decide) (by decide) (HRG.out f) (HRG.out g)).mono ?_
  rintro e w9 ⟨nn, rfl, hnn, hl, hgr⟩
  have HL9 := hide hl
  have HB9 := hide (HB8.out.trans (grown_below hgr (fun k hk => by cases hk; exact hbW) HB8.out.size))
  clear hl hgr
  go_wp2_with (at_len; refine wpList_lenLM _ rfl _ rfl rfl HL9.out ?_; intro s hs hiff; have HIF := hide (hiff.trans HSL.out); clear hiff)
  go_ret
  refine ⟨ret_bool ?_, HB9.out⟩
  cases e : sameL R C f g with
  | true => have := HIF.out.2 e; simp [this]
  | false =>
    have : s ≠ 0 := fun h => by have := HIF.out.1 h; rw [e] at this; cases this
    simp [this]
theorem implSameSums_any (v u : Value) (R C R' C' : Nat) (f g : Nat → Nat → Int) (w : World) (hin : InMat w v (mkM R C f)) (hin2 : InMat w u (mkM R' C' g)) (h : Img R C f) (h' : Img R' C' g) :
    Calls Tryz.prog 11 #[v, u] w fun e w' => e = .returned (.bool (if R = R' ∧ C = C' then sameL R C f g else false)) ∧ Below w.heap.size w w' := by
  by_cases hR : R = R'
  · subst hR
    by_cases hC : C = C'
    · subst hC
      rw [if_pos ⟨rfl, rfl⟩]
      exact implSameSums_same v u R C f g w hin hin2 h h'
    · rw [if_neg fun e => hC e.2]
      exact implSameSums_cols v u R C C' f g w hin hin2 h h' hC
  · rw [if_neg fun e => hR e.1]
    exact implSameSums_rows v u R C R' C' f g w hin hin2 h h' hR

end Go.Proofs.YtpfaaglaeholbaaGreat
/-
  Whether two lists of lists are images with the same sums.
-/
namespace Go.Proofs.YtpfaaglaeholbaaGreat
open Go.RowKit

def sameB (m l : List (List Int)) : Bool := okB m && okB l && (decide (m.length = l.length) && decide (widthM m = widthM l) && sameL m.length (widthM m) (cellM m) (cellM l))
theorem rs_congr {C : Nat} {f g : Nat → Nat → Int} {y : Nat} (h : ∀ x, x < C → f y x = g y x) : rs C f y = rs C g y := cnt_congr fun x hx => by rw [h x hx]
theorem rowsL_congr {R C : Nat} {f g : Nat → Nat → Int} (h : ∀ y x, y < R → x < C → f y x = g y x) : rowsL R C f = rowsL R C g := rowF_congr fun y hy => by rw [rs_congr fun x hx => h y x hy hx]
theorem sameL_congr {R C : Nat} {f g f' g' : Nat → Nat → Int} (h : ∀ y x, y < R → x < C → f y x = f' y x) (h2 : ∀ y x, y < R → x < C → g y x = g' y x) : sameL R C f g = sameL R C f' g' := by
  unfold sameL
  rw [rowsL_congr h, rowsL_congr h2, rowsL_congr (f := trM f) (g := trM f') fun y x hy hx => h x y hx hy, rowsL_congr (f := trM g) (g := trM g') fun y x hy hx => h2 x y hx hy]
theorem width_mk {R C : Nat} {f : Nat → Nat → Int} (h : Img R C f) : widthM (mkM R C f) = C := by
  have := h.r1
  unfold widthM mkM
  obtain ⟨n, rfl⟩ : ∃ n, R = n + 1 := ⟨R - 1, by omega⟩
  simp [List.range_succ_eq_map, rowF]
theorem sameB_mk {R C R' C' : Nat} {f g : Nat → Nat → Int} (h : Img R C f) (h' : Img R' C' g) : sameB (mkM R C f) (mkM R' C' g) = if R = R' ∧ C = C' then sameL R C f g else false := by
  unfold sameB
  rw [img_ok h, img_ok h', width_mk h, width_mk h', mkM_len, mkM_len]
  by_cases e1 : R = R'
  · by_cases e2 : C = C'
    · subst e1; subst e2
      rw [if_pos ⟨rfl, rfl⟩, sameL_congr (fun y x hy hx => cell_mk R C f hy hx) (fun y x hy hx => cell_mk R C g hy hx)]
      simp
    · rw [if_neg fun e => e2 e.2]; simp [e2]
  · rw [if_neg fun e => e1 e.1]; simp [e1]
theorem rowF_inj {n : Nat} {f g : Nat → Int} (h : rowF n f = rowF n g) : ∀ i, i < n → f i = g i := fun i hi => by
  have h1 : (rowF n f)[i]? = (rowF n g)[i]? := by rw [h]
  simpa [rowF, hi] using h1
theorem sameB_yes {m l : List (List Int)} (h : sameB m l = true) : ∃ R C f g, m = mkM R C f ∧ l = mkM R C g ∧ Img R C f ∧ Img R C g ∧ SameF R C f g := by
  have h0 := h
  unfold sameB at h0
  simp only [Bool.and_eq_true] at h0
  obtain ⟨R, C, f, rfl, hI⟩ := ok_img h0.1.1
  obtain ⟨R', C', g, rfl, hJ⟩ := ok_img h0.1.2
  rw [sameB_mk hI hJ] at h
  by_cases e : R = R' ∧ C = C'
  · obtain ⟨rfl, rfl⟩ := e
    rw [if_pos ⟨rfl, rfl⟩] at h
    unfold sameL at h
    simp only [Bool.and_eq_true, beq_iff_eq] at h
    refine ⟨R, C, f, g, rfl, rfl, hI, hJ, fun y hy => ?_, fun x hx => ?_⟩
    · have := rowF_inj h.1 y hy; omega
    · have := rowF_inj h.2 x hx
      show rs R (trM f) x = rs R (trM g) x
      omega
  · rw [if_neg e] at h; cases h
theorem implSameB_any (v u : Value) (m l : List (List Int)) (w : World) (hin : InMat w v m) (hin2 : InMat w u l) :
    Calls Tryz.prog 11 #[v, u] w fun e w' => e = .returned (.bool (sameB m l)) ∧ Below w.heap.size w w' := by
  cases h : okB m && okB l with
  | false =>
    have := implSameSums_no v u m l w hin hin2 h
    unfold sameB
    rw [h, Bool.false_and]; exact this
  | true =>
    simp only [Bool.and_eq_true] at h
    obtain ⟨R, C, f, rfl, hI⟩ := ok_img h.1
    obtain ⟨R', C', g, rfl, hJ⟩ := ok_img h.2
    rw [sameB_mk hI hJ]
    exact implSameSums_any v u R C R' C' f g w hin hin2 hI hJ
end Go.Proofs.YtpfaaglaeholbaaGreat
/-
  IsFixed of both.
-/
namespace Go.Proofs.YtpfaaglaeholbaaGreat
open Go.RowKit
set_option maxRecDepth 100000

theorem S_cnt (g : Nat → Int) : ∀ n, (∀ i, i < n → g i = 0 ∨ g i = 1) → Mx.S n g = (cnt (fun i => g i == 1) n : Nat)
  | 0, _ => rfl
  | n + 1, h => by
    rw [Mx.S, S_cnt g n fun i hi => h i (Nat.lt_succ_of_lt hi), cnt]
    rcases h n (Nat.lt_succ_self n) with e | e <;> simp [e]
theorem rowF_getD {n : Nat} {g : Nat → Int} {i : Nat} (h : i < n) : (rowF n g).getD i 0 = g i := by simp [rowF, h]
section
variable {R C : Nat} {f : Nat → Nat → Int}
theorem rows_len (R C : Nat) (f : Nat → Nat → Int) : (rowsL R C f).length = R := rowF_len _ _
theorem rowsL_at (hI : Img R C f) {y : Nat} (hy : y < R) : (rowsL R C f).getD y 0 = Mx.S C (f y) := by
  unfold rowsL
  rw [rowF_getD hy, S_cnt _ _ fun x hx => hI.cell y x hy hx]; rfl
theorem colsL_at (hI : Img R C f) {x : Nat} (hx : x < C) : (rowsL C R (trM f)).getD x 0 = Mx.S R fun y => f y x := by
  unfold rowsL
  rw [rowF_getD hx, S_cnt _ _ fun y hy => hI.cell y x hy hx]; rfl
theorem imgF_iff (hI : Img R C f) (g : Nat → Nat → Int) : ImgF (rowsL R C f) (rowsL C R (trM f)) g ↔ (∀ y x, y < R → x < C → g y x = 0 ∨ g y x = 1) ∧ (∀ y, y < R → Mx.S C (g y) = Mx.S C (f y)) ∧ ∀ x, x < C → Mx.S R (fun y => g y x) = Mx.S R fun y => f y x := by
  constructor
  · rintro ⟨h1, h2, h3⟩
    rw [rows_len, rows_len] at h1
    refine ⟨h1, fun y hy => ?_, fun x hx => ?_⟩
    · have := h2 y (by rw [rows_len]; exact hy)
      rw [rows_len, rowsL_at hI hy] at this; exact this
    · have := h3 x (by rw [rows_len]; exact hx)
      rw [rows_len, colsL_at hI hx] at this; exact this
  · rintro ⟨h1, h2, h3⟩
    refine ⟨by rw [rows_len, rows_len]; exact h1, fun y hy => ?_, fun x hx => ?_⟩
    · rw [rows_len] at hy
      rw [rows_len, rowsL_at hI hy]; exact h2 y hy
    · rw [rows_len] at hx
      rw [rows_len, colsL_at hI hx]; exact h3 x hx
theorem imgF_self (hI : Img R C f) : ImgF (rowsL R C f) (rowsL C R (trM f)) f := (imgF_iff hI f).2 ⟨hI.cell, fun _ _ => rfl, fun _ _ => rfl⟩
end
theorem listF_at {n C : Nat} {m : Nat → Nat → Int} {y x : Nat} (hy : y < n) (hx : x < C) : ((listF n C m).getD y []).getD x 0 = m y x := by
  simp [listF, tabL, hy, hx]
theorem place_img {r c : List Int} {y x : Nat} (v : Int) (hr : 1 ≤ r.length ∧ r.length ≤ 5) (hc : 1 ≤ c.length ∧ c.length ≤ 5) (hy : y < r.length) (hx : x < c.length) (h : HasImg r c) : placeOf r c y x v = true ↔ ∃ g, ImgF r c g ∧ g y x = v := by
  unfold placeOf
  rw [exists_of_img hr hc h, decide_eq_true (show (0 : Int) ≤ y ∧ (y : Int) < r.length ∧ (0 : Int) ≤ x ∧ (x : Int) < c.length by omega), Int.toNat_natCast, Int.toNat_natCast, ← place_iff v hr.2 hc hy h, Bool.true_and, Bool.true_and, List.any_eq_true]
  constructor
  · rintro ⟨l, hl, e⟩
    exact ⟨_, (all_sound r c hr.2 hc h l hl).2.2, by simpa using e⟩
  · rintro ⟨g, hg, e⟩
    exact ⟨_, all_complete r c hr.2 hc g hg, by rw [listF_at hy hx, e]; simp⟩
theorem fix_rch {R C : Nat} {f : Nat → Nat → Int} (hI : Img R C f) {y x : Nat} (hy : y < R) (hx : x < C) : placeOf (rowsL R C f) (rowsL C R (trM f)) y x (1 - f y x) = true ↔ if f y x = 1 then Rch R C f (R + x) y else Rch R C f y (R + x) := by
  rw [place_img _ (by rw [rows_len]; exact ⟨hI.r1, hI.r2⟩) (by rw [rows_len]; exact ⟨hI.c1, hI.c2⟩) (by rw [rows_len]; exact hy) (by rw [rows_len]; exact hx) ⟨f, imgF_self hI⟩]
  constructor
  · rintro ⟨g, hg, e⟩
    obtain ⟨h1, h2, h3⟩ := (imgF_iff hI g).1 hg
    exact rch_of_free hI.cell hy hx h1 h2 h3 e
  · intro h
    obtain ⟨g, h1, h2, h3, h4⟩ := free_of_rch hI.cell hy hx h
    exact ⟨g, (imgF_iff hI g).2 ⟨h1, h2, h3⟩, h4⟩
/-- Whether a cell is fixed. -/
def fixB (R C : Nat) (f : Nat → Nat → Int) (y x : Int) : Bool := decide (0 ≤ y ∧ y < R ∧ 0 ≤ x ∧ x < C) && !placeOf (rowsL R C f) (rowsL C R (trM f)) y x (1 - atM R C f y x)
theorem fixB_in {R C : Nat} {f : Nat → Nat → Int} {y x : Nat} (hy : y < R) (hx : x < C) : fixB R C f y x = !placeOf (rowsL R C f) (rowsL C R (trM f)) y x (1 - f y x) := by
  unfold fixB atM
  have h : (0 : Int) ≤ y ∧ (y : Int) < R ∧ (0 : Int) ≤ x ∧ (x : Int) < C := by omega
  rw [decide_eq_true h, if_pos h, Int.toNat_natCast, Int.toNat_natCast, Bool.true_and]
set_option maxHeartbeats 1000000 in
theorem specIsFixed_no (v : Value) (m : List (List Int)) (y x : Int) (w : World) (hin : InMat w v m) (h : okB m = false) :
    Calls Tryz.prog 47 #[v, .int .i64 y, .int .i64 x] w fun e w' => e = .returned (.bool false) ∧ Below w.heap.size w w' := by
  have HI := hide hin; have H := hide h
  clear hin h
  go_enter Tryz.func47, Tryz.ntmps47
  go_wp2_with ((with_reducible refine (l02In_no v m y x _ HI.out H.out).mono ?_); rintro e w' ⟨rfl, rfl⟩)
  go_ret
  exact ⟨rfl, Below.refl _ _⟩
set_option maxHeartbeats 2000000 in
theorem specIsFixed_yes (v : Value) (R C : Nat) (f : Nat → Nat → Int) (y x : Int) (w : World) (hin : InMat w v (mkM R C f)) (hI : Img R C f) :
    Calls Tryz.prog 47 #[v, .int .i64 y, .int .i64 x] w fun e w' => e = .returned (.bool (fixB R C f y x)) ∧ Below w.heap.size w w' := by
  by_cases hb : 0 ≤ y ∧ y < R ∧ 0 ≤ x ∧ x < C
  · obtain ⟨y, rfl⟩ : ∃ k : Nat, y = k := ⟨y.toNat, by omega⟩
    obtain ⟨x, rfl⟩ : ∃ k : Nat, x = k := ⟨x.toNat, by omega⟩
    have hy : y < R := by omega
    have hx : x < C := by omega
    have hyI : (y : Int) < R := by omega
    have hxI : (x : Int) < C := by omega
    have H1 := hide (l02In_img v R C f y x w hin hI true ⟨fun _ => hb, fun _ => rfl⟩)
    have HR := hide (fun (s : Nat) (hs : s < R + C) => l07Reach_any v R C f s w hin hI hs)
    have HFR := hide (fix_rch hI hy hx)
    have HFB := hide (fixB_in (f := f) hy hx)
    have HCL := hide (hI.cell y x hy hx)
    obtain ⟨g0, o0, c0, rfl, hg0, hcell⟩ := inMat_img hin (by omega) (by omega)
    obtain ⟨g1, o1, k1, hr, hg1, hc⟩ := hcell y hy
    have hz := hc x hx
    obtain ⟨s, hs⟩ : ∃ s, s = R + x := ⟨_, rfl⟩
    have hsI : (R : Int) + (x : Int) = (s : Int) := by omega
    have hsn : s < R + C := by omega
    have hR5 := hI.r2; have hC5 := hI.c2
    obtain ⟨pl, hpl⟩ : ∃ pl, pl = placeOf (rowsL R C f) (rowsL C R (trM f)) y x (1 - f y x) := ⟨_, rfl⟩
    rw [← hpl] at HFR HFB
    rw [HFB.out]
    rw [← hs] at HFR
    obtain ⟨z, hzz⟩ : ∃ z, z = f y x := ⟨_, rfl⟩
    rw [← hzz] at hz HCL HFR
    obtain ⟨N, hN⟩ : ∃ N, N = R + C := ⟨_, rfl⟩
    have HN := hide hN
    have hsN : s < N := by omega
    have hsNI : (s : Int) < (N : Int) := by omega
    have hyN : y < N := by omega
    have hyNI : (y : Int) < (N : Int) := by omega
    clear hin hI hcell hc hpl hzz hs HFB hN
    rcases HCL.out with rfl | rfl
    · have hF := HFR.out
      rw [if_neg (by decide)] at hF
      have HF := hide hF
      clear HCL HFR hF
      go_enter Tryz.func47, Tryz.ntmps47
      go_wp2_with (first | ((with_reducible refine H1.out.mono ?_); rintro e w' ⟨rfl, rfl⟩) | ((with_reducible refine (HR.out y (by omega)).mono ?_); rintro e w3 ⟨g, b, rfl, hm, hb3, hbv⟩; rw [← HN.out] at hm; have hcm := (marks_cell hm hsN).1; have HBV := hide (hbv s hsn); have HB3 := hide hb3; rw [← HN.out]; obtain ⟨q, hq⟩ : ∃ q, q = b s := ⟨_, rfl⟩; rw [← hq] at hcm HBV; clear hm hbv hb3 hq))
      go_ret
      refine ⟨?_, HB3.out⟩
      have : pl = q := by rw [Bool.eq_iff_iff, HF.out, HBV.out]
      rw [this]; rfl
    · have hF := HFR.out
      rw [if_pos rfl] at hF
      have HF := hide hF
      clear HCL HFR hF
      go_enter Tryz.func47, Tryz.ntmps47
      go_wp2_with (first | ((with_reducible refine H1.out.mono ?_); rintro e w' ⟨rfl, rfl⟩) | ((with_reducible refine (HR.out s hsn).mono ?_); rintro e w3 ⟨g, b, rfl, hm, hb3, hbv⟩; rw [← HN.out] at hm; have hcm := (marks_cell hm hyN).1; have HBV := hide (hbv y (by omega)); have HB3 := hide hb3; rw [← HN.out]; obtain ⟨q, hq⟩ : ∃ q, q = b y := ⟨_, rfl⟩; rw [← hq] at hcm HBV; clear hm hbv hb3 hq))
      go_ret
      refine ⟨?_, HB3.out⟩
      have : pl = q := by rw [Bool.eq_iff_iff, HF.out, HBV.out]
      rw [this]; rfl
  · have H1 := hide (l02In_img v R C f y x w hin hI false ⟨fun h => (by cases h), fun h => absurd h hb⟩)
    have HF : Hid (fixB R C f y x = false) := hide (by unfold fixB; rw [decide_eq_false hb]; rfl)
    rw [HF.out]
    clear hin hI hb HF
    go_enter Tryz.func47, Tryz.ntmps47
    go_wp2_with ((with_reducible refine H1.out.mono ?_); rintro e w' ⟨rfl, rfl⟩)
    go_ret
    exact ⟨rfl, Below.refl _ _⟩
/-- Whether a cell is fixed, in any list of lists. -/
def fixM (m : List (List Int)) (y x : Int) : Bool := okB m && fixB m.length (widthM m) (cellM m) y x
theorem fixB_congr {R C : Nat} {f g : Nat → Nat → Int} (h : ∀ y x, y < R → x < C → f y x = g y x) (y x : Int) : fixB R C f y x = fixB R C g y x := by
  unfold fixB
  by_cases hb : 0 ≤ y ∧ y < R ∧ 0 ≤ x ∧ x < C
  · rw [rowsL_congr h, rowsL_congr (f := trM f) (g := trM g) fun y x hy hx => h x y hx hy]
    unfold atM
    rw [if_pos hb, if_pos hb, h _ _ (by omega) (by omega)]
  · rw [decide_eq_false hb]; rfl
theorem fixM_mk {R C : Nat} {f : Nat → Nat → Int} (hI : Img R C f) (y x : Int) : fixM (mkM R C f) y x = fixB R C f y x := by
  unfold fixM
  rw [img_ok hI, mkM_len, width_mk hI, Bool.true_and]
  exact fixB_congr (fun y x hy hx => cell_mk R C f hy hx) y x
theorem specIsFixed_any (v : Value) (m : List (List Int)) (y x : Int) (w : World) (hin : InMat w v m) :
    Calls Tryz.prog 47 #[v, .int .i64 y, .int .i64 x] w fun e w' => e = .returned (.bool (fixM m y x)) ∧ Below w.heap.size w w' := by
  cases h : okB m with
  | false => unfold fixM; rw [h]; exact specIsFixed_no v m y x w hin h
  | true =>
    obtain ⟨R, C, f, rfl, hI⟩ := ok_img h
    rw [fixM_mk hI]; exact specIsFixed_yes v R C f y x w hin hI
set_option maxHeartbeats 1000000 in
theorem implIsFixed_no (v : Value) (m : List (List Int)) (y x : Int) (w : World) (hin : InMat w v m) (h : okB m = false) :
    Calls Tryz.prog 15 #[v, .int .i64 y, .int .i64 x] w fun e w' => e = .returned (.bool false) ∧ Below w.heap.size w w' := by
  have HI := hide hin; have H := hide h
  clear hin h
  go_enter Tryz.func15, Tryz.ntmps15
  go_wp2_with ((with_reducible refine (implCellAt_no v m y x _ HI.out H.out).mono ?_); rintro e w' ⟨rfl, hb⟩)
  go_ret
  exact ⟨rfl, hb⟩
set_option maxHeartbeats 2000000 in
theorem implIsFixed_yes (v : Value) (R C : Nat) (f : Nat → Nat → Int) (y x : Int) (w : World) (hin : InMat w v (mkM R C f)) (hI : Img R C f) :
    Calls Tryz.prog 15 #[v, .int .i64 y, .int .i64 x] w fun e w' => e = .returned (.bool (fixB R C f y x)) ∧ Below w.heap.size w w' := by
  have HI := hide hin; have H := hide hI
  obtain ⟨z, hz⟩ : ∃ z, z = atM R C f y x := ⟨_, rfl⟩
  have HZ := hide hz
  have hz1 : 0 ≤ y ∧ y < R ∧ 0 ≤ x ∧ x < C → z = 0 ∨ z = 1 := fun hb => by
    rw [hz]; unfold atM; rw [if_pos hb]; exact hI.cell _ _ (by omega) (by omega)
  have HFB : Hid (fixB R C f y x = (decide (0 ≤ y ∧ y < R ∧ 0 ≤ x ∧ x < C) && !placeOf (rowsL R C f) (rowsL C R (trM f)) y x (1 - z))) := hide (by rw [hz]; rfl)
  rw [HFB.out]
  by_cases hb : 0 ≤ y ∧ y < R ∧ 0 ≤ x ∧ x < C
  · have hz01 := hz1 hb
    have hne : z ≠ -1 := by omega
    have hsub : IntKind.i64.wrap (1 - z) = 1 - z := IntWalk.i64_in _ (by omega)
    rw [decide_eq_true hb, Bool.true_and]
    clear hin hI hz hz1 HFB hb
    go_enter Tryz.func15, Tryz.ntmps15
    go_wp2_with fail
    refine (implCellAt_yes v R C f y x _ HI.out H.out).mono ?_
    rintro e w1 ⟨rfl, hb1⟩
    rw [← HZ.out]
    have I1 := hide (inMat_below HI.out hb1); have B1 := hide hb1
    clear hb1
    go_wp2_with fail
    refine (implRowSums_yes v R C f _ I1.out H.out).mono ?_
    rintro e w2 ⟨rv, rfl, hr, hb2⟩
    have I2 := hide (inMat_below I1.out hb2); have B2 := hide (B1.out.trans (hb2.mono B1.out.size)); have R2 := hide (inRow_own hr)
    clear hb2 hr
    go_wp2_with fail
    refine (implColSums_yes v R C f _ I2.out H.out).mono ?_
    rintro e w3 ⟨cv, rfl, hc, hb3⟩
    have B3 := hide (B2.out.trans (hb3.mono B2.out.size)); have R3 := hide (inRow_below R2.out hb3); have C3 := hide (inRow_own hc)
    clear hb3 hc
    go_wp2_with fail
    refine (implPlace_any rv cv _ _ y x (1 - z) _ R3.out C3.out).mono ?_
    rintro e w4 ⟨rfl, hb4⟩
    have B4 := hide (B3.out.trans (hb4.mono B3.out.size))
    clear hb4
    go_wp2
    go_ret
    refine ⟨?_, B4.out⟩
    have hbz : (z != -1) = true := by simpa using hne
    show Ending.returned (.bool (z != -1 && !placeOf (rowsL R C f) (rowsL C R (trM f)) y x (1 - z))) = _
    rw [hbz, Bool.true_and]
  · have hm : z = -1 := by rw [hz]; unfold atM; rw [if_neg hb]
    subst hm
    rw [decide_eq_false hb, Bool.false_and]
    clear hin hI hz hz1 HFB hb
    go_enter Tryz.func15, Tryz.ntmps15
    go_wp2_with fail
    refine (implCellAt_yes v R C f y x _ HI.out H.out).mono ?_
    rintro e w1 ⟨rfl, hb1⟩
    rw [← HZ.out]
    go_wp2
    go_ret
    exact ⟨rfl, hb1⟩
theorem implIsFixed_any (v : Value) (m : List (List Int)) (y x : Int) (w : World) (hin : InMat w v m) :
    Calls Tryz.prog 15 #[v, .int .i64 y, .int .i64 x] w fun e w' => e = .returned (.bool (fixM m y x)) ∧ Below w.heap.size w w' := by
  cases h : okB m with
  | false => unfold fixM; rw [h]; exact implIsFixed_no v m y x w hin h
  | true =>
    obtain ⟨R, C, f, rfl, hI⟩ := ok_img h
    rw [fixM_mk hI]; exact implIsFixed_yes v R C f y x w hin hI
end Go.Proofs.YtpfaaglaeholbaaGreat
/-
  Contracts of the library, at this translation: laid by the shelf, in plain declarations.
-/
namespace Go.Proofs
open Go.Shelf Go.RowKit Go.Lib Go.Sort
def Tryz.laysSlF20_f130_ren : Go.Shelf.Ren := ⟨fun | 20 => 130 | n => n, fun | 24 => 3 | 22 => 25 | 3 => 3 | 25 => 89 | 4 => 4 | 0 => 0 | n => n, fun | n => n⟩
theorem Tryz.laysSlF20_f130 : Go.Proofs.SlLaysF.n20 Tryz.prog Tryz.laysSlF20_f130_ren := {
  mixed := by kernel_rfl
  f20 := ⟨Tryz.f130.name, by decide, Tryz.func130.trans (congrArg some (by kernel_rfl))⟩
  t0 := Tryz.underlying0
  a0 := Tryz.isAgg0
  z0 := Tryz.sizeOf0
  v0 := Tryz.zeroValue0
  t3 := Tryz.underlying3
  a3 := Tryz.isAgg3
  z3 := Tryz.sizeOf3
  v3 := Tryz.zeroValue3
  t4 := Tryz.underlying4
  a4 := Tryz.isAgg4
  z4 := Tryz.sizeOf4
  v4 := Tryz.zeroValue4
  t22 := Tryz.underlying25
  a22 := Tryz.isAgg25
  z22 := Tryz.sizeOf25
  v22 := Tryz.zeroValue25
  a24 := Tryz.isAgg3
  z24 := Tryz.sizeOf3
  t25 := Tryz.underlying89
  a25 := Tryz.isAgg89
  z25 := Tryz.sizeOf89
  v25 := Tryz.zeroValue89 }
theorem Tryz.insertionSortCmpFunc_one {α : Type} [Inhabited α] (enc : α → Value) (hO : OneCell enc) (cf : α → α → Int) (g : Nat) (cb : Array Value) (blk off cap a b : Nat) (d : Array α) (w : World) (eg : ∀ args w, (callFunc g args).run Tryz.prog w = .ok (.enter g args) w) (hcmp : CmpReads Tryz.prog g cb enc cf blk off d.size w) (hH : Holds enc w blk off d) (hab : a ≤ b) (hb : b ≤ d.size) (hsz : d.size < 4611686018427387904) :
    Calls Tryz.prog 130 #[.slice (some ⟨blk, off, none⟩) d.size cap, .int .i64 a, .int .i64 b, .func (.func g) #[] cb] w fun e w' =>
      e = .returned (.tuple #[]) ∧ ∃ n, w' = (putRow enc w blk off (Sort.insertionSort (ltOf cf) d a b)).drewN n := Any.insertionSortCmpFunc_one Tryz.laysSlF20_f130 enc hO cf g cb blk off cap a b d w eg hcmp hH hab hb hsz
end Go.Proofs
