/-
  Texts of this claim, one behind the other: PlaceI, SpecT, ColSS, ColS, Eq, Same, Put, Dist, SpecD, SameS.
-/
import Derived.Test.YtcliiefedmiokaaPackL
import Derived.Test.YtcliiefedmiokaaPackI
import Derived.Test.YtcliiefedmiokaaPackG
import Derived.Test.YtcliiefedmiokaaPackB
import Derived.Test.YtcliiefedmiokaaPackH
/-
  CanPlace of the program.
-/
namespace Go.Proofs.Ytcliiefedmiokaa
open Go.RowKit Go.Shelf Mx

set_option maxHeartbeats 400000 in
theorem placePred_any (u : Value) (row : List Int) (x : Nat) (v : Int) (qx qv : Nat) (w : World) (hvx : w.cell? ⟨qx, 0, none⟩ = some (.int .i64 x)) (hvv : w.cell? ⟨qv, 0, none⟩ = some (.int .i64 v)) (hU : InRow w u row) (hx : x < row.length) :
    Calls Try.prog 124 #[u, .pointer (some ⟨qx, 0, none⟩), .pointer (some ⟨qv, 0, none⟩)] w fun e w' => e = .returned (.bool (row.getD x 0 == v)) ∧ Below w.heap.size w w' := by
  have mixed : Try.prog.follows .mixedOrders = true := by kernel_rfl
  obtain ⟨a, c, rfl, hm, hp⟩ := hU
  obtain ⟨g, o, rfl, hg, hc⟩ := hp.resolve_left (by omega)
  have hcx := hc x hx
  have e1 : row.getD x 0 = row[x] := by rw [List.getD_eq_getElem?_getD, List.getElem?_eq_getElem hx]; rfl
  rw [e1]
  obtain ⟨z, hz⟩ : ∃ z, z = row[x] := ⟨_, rfl⟩
  rw [← hz] at hcx ⊢
  obtain ⟨n, hn⟩ : ∃ n, n = row.length := ⟨_, rfl⟩
  rw [← hn] at hx hm ⊢
  have hxI : (x : Int) < n := by omega
  clear hc hp e1 hz hn
  go_enter Try.func124, Try.ntmps124
  go_wp2
  go_quiet (fail)
  go_wp2
  go_ret
  exact ⟨rfl, below_draws (Below.refl _ _) _⟩
theorem place_out {r c : List Int} {y x v : Int} (h : ¬ (0 ≤ y ∧ y < r.length ∧ 0 ≤ x ∧ x < c.length)) : placeOf r c y x v = false := by
  unfold placeOf
  rw [decide_eq_false h]; simp
theorem place_no {r c : List Int} {y x v : Int} (h : existsOf r c = false) : placeOf r c y x v = false := by unfold placeOf; rw [h]; rfl
theorem place_in {r c : List Int} {y x : Nat} {v : Int} (h : existsOf r c = true) (hy : y < r.length) (hx : x < c.length) : placeOf r c y x v = (rowsAtL r c y).any fun row => row.getD x 0 == v := by
  unfold placeOf
  rw [h, decide_eq_true (by omega)]; simp
set_option maxHeartbeats 400000 in
theorem implPlace_no (va vb : Value) (r c : List Int) (y x v : Int) (w : World) (ha : InRow w va r) (hb : InRow w vb c) (h : existsOf r c = false) :
    Calls Try.prog 87 #[va, vb, .int .i64 y, .int .i64 x, .int .i64 v] w fun e w' => e = .returned (.bool (placeOf r c y x v)) ∧ Below w.heap.size w w' := by
  rw [place_no h]
  have HBX := hide (((Below.refl w.heap.size w).alloc (Nat.le_refl _) (.cells #[.int .i64 x] 3)).alloc (by simp) (.cells #[.int .i64 v] 3))
  have HE := hide (implExists_any va vb r c _ (inRow_below ha HBX.out) (inRow_below hb HBX.out))
  rw [h] at HE
  clear ha hb h
  go_enter Try.func87, Try.ntmps87
  go_wp2_with (go_at_call 122; refine HE.out.mono ?_; rintro e w1 ⟨rfl, b1⟩; have B1 := hide b1; clear b1)
  go_ret
  exact ⟨rfl, HBX.out.trans (B1.out.mono HBX.out.size)⟩
set_option maxHeartbeats 1000000 in
theorem implPlace_out (va vb : Value) (r c : List Int) (y x v : Int) (w : World) (ha : InRow w va r) (hb : InRow w vb c) (h : existsOf r c = true) (ho : ¬ (0 ≤ y ∧ y < r.length ∧ 0 ≤ x ∧ x < c.length)) :
    Calls Try.prog 87 #[va, vb, .int .i64 y, .int .i64 x, .int .i64 v] w fun e w' => e = .returned (.bool (placeOf r c y x v)) ∧ Below w.heap.size w w' := by
  rw [place_out ho]
  have HBX := hide (((Below.refl w.heap.size w).alloc (Nat.le_refl _) (.cells #[.int .i64 x] 3)).alloc (by simp) (.cells #[.int .i64 v] 3))
  have HX := hide (show ((w.alloc (.cells #[.int .i64 x] 3)).alloc (.cells #[.int .i64 v] 3)).cell? ⟨w.heap.size, 0, none⟩ = some (.int .i64 x) from below_cell ((Below.refl _ _).alloc (Nat.le_refl _) _) (by simp) (by simp [World.cell?_alloc_new]))
  have HS := hide (show w.heap.size < ((w.alloc (.cells #[.int .i64 x] 3)).alloc (.cells #[.int .i64 v] 3)).heap.size by simp; omega)
  have HE := hide (implExists_any va vb r c _ (inRow_below ha HBX.out) (inRow_below hb HBX.out))
  rw [h] at HE
  obtain ⟨xa, ca, rfl, hma, -⟩ := ha
  obtain ⟨xb, cb, rfl, hmb, -⟩ := hb
  unfold maxLen at hma hmb
  obtain ⟨R, hR⟩ : ∃ R, R = r.length := ⟨_, rfl⟩
  obtain ⟨C, hC⟩ : ∃ C, C = c.length := ⟨_, rfl⟩
  rw [← hR] at ho hma HE ⊢
  rw [← hC] at ho hmb HE ⊢
  clear h hR hC
  have hcases : y < 0 ∨ (0 ≤ y ∧ (R : Int) ≤ y) ∨ (0 ≤ y ∧ y < R ∧ x < 0) ∨ (0 ≤ y ∧ y < R ∧ 0 ≤ x ∧ (C : Int) ≤ x) := by omega
  clear ho
  rcases hcases with h1 | ⟨h1, h2⟩ | ⟨h1, h2, h3⟩ | ⟨h1, h2, h3, h4⟩
  all_goals
    go_enter Try.func87, Try.ntmps87
    go_wp2_with (go_at_call 122; refine HE.out.mono ?_; rintro e w1 ⟨rfl, b1⟩; have B1 := hide b1; have hx1 := below_cell b1 HS.out HX.out; clear b1)
    go_ret
    exact ⟨rfl, HBX.out.trans (B1.out.mono HBX.out.size)⟩
set_option maxHeartbeats 1000000 in
theorem implPlace_in (va vb : Value) (r c : List Int) (y x : Nat) (v : Int) (w : World) (ha : InRow w va r) (hb : InRow w vb c) (h : existsOf r c = true) (hy : y < r.length) (hx : x < c.length) :
    Calls Try.prog 87 #[va, vb, .int .i64 y, .int .i64 x, .int .i64 v] w fun e w' => e = .returned (.bool (placeOf r c y x v)) ∧ Below w.heap.size w w' := by
  rw [place_in h hy hx]
  have HBX := hide (((Below.refl w.heap.size w).alloc (Nat.le_refl _) (.cells #[.int .i64 x] 3)).alloc (by simp) (.cells #[.int .i64 v] 3))
  have HX := hide (show ((w.alloc (.cells #[.int .i64 x] 3)).alloc (.cells #[.int .i64 v] 3)).cell? ⟨w.heap.size, 0, none⟩ = some (.int .i64 x) from below_cell ((Below.refl _ _).alloc (Nat.le_refl _) _) (by simp) (by simp [World.cell?_alloc_new]))
  have HV := hide (show ((w.alloc (.cells #[.int .i64 x] 3)).alloc (.cells #[.int .i64 v] 3)).cell? ⟨w.heap.size + 1, 0, none⟩ = some (.int .i64 v) by
    have := World.cell?_alloc_new (w.alloc (.cells #[.int .i64 x] 3)) #[.int .i64 v] 3 0
    simp at this ⊢)
  have HS := hide (show w.heap.size + 1 < ((w.alloc (.cells #[.int .i64 x] 3)).alloc (.cells #[.int .i64 v] 3)).heap.size by simp)
  have HE := hide (implExists_any va vb r c _ (inRow_below ha HBX.out) (inRow_below hb HBX.out))
  rw [h] at HE
  obtain ⟨hr5, hc5, -, -, -⟩ := sumsOk_yes (existsOf_sums h)
  have hmid := mid_img hr5.2 hc5.2 (img_of_exists h)
  have HR := hide fun (w' : World) (hw : Below w.heap.size w w') => rowsAt_any va vb r c y w' (inRow_below ha hw) (inRow_below hb hw) hy hr5.2 hc5.1 hmid
  have HOK : Hid (∀ row ∈ rowsAtL r c y, row.length = c.length) := hide fun row hrow => ((mem_rowsL _ _ _).1 (List.mem_filter.1 hrow).1).1
  obtain ⟨xa, ca, rfl, hma, -⟩ := ha
  obtain ⟨xb, cb, rfl, hmb, -⟩ := hb
  unfold maxLen at hma hmb
  obtain ⟨R, hRR⟩ : ∃ R, R = r.length := ⟨_, rfl⟩
  obtain ⟨C, hCC⟩ : ∃ C, C = c.length := ⟨_, rfl⟩
  rw [← hRR] at hy hma HE HR ⊢
  rw [← hCC] at hx hmb HE HR HOK ⊢
  have hyI : (y : Int) < R := by omega
  have hxI : (x : Int) < C := by omega
  have HXC := hide hx
  clear h hRR hCC hmid hr5 hc5
  go_enter Try.func87, Try.ntmps87
  go_wp2_with (go_at_call 122; refine HE.out.mono ?_; rintro e w1 ⟨rfl, b1⟩; have B1 := hide (HBX.out.trans (b1.mono HBX.out.size)); have hx1 := below_cell b1 (Nat.lt_of_succ_lt HS.out) HX.out; have HX1 := hide hx1; have HV1 := hide (below_cell b1 HS.out HV.out); have HS1 := hide (Nat.lt_of_lt_of_le HS.out b1.size); clear b1)
  refine (HR.out _ B1.out).mono ?_
  rintro e w2 ⟨u, rfl, hm, hb⟩
  have HM := hide (inMat_matT hm); have HB2 := hide (B1.out.trans (hb.mono B1.out.size))
  have HX2 := hide (below_cell hb (Nat.lt_of_succ_lt HS1.out) HX1.out); have HV2 := hide (below_cell hb HS1.out HV1.out); have HS2 := hide (Nat.lt_of_lt_of_le HS1.out hb.size)
  clear hm hb
  have HCON := hide (containsRows_any u (rowsAtL r c y) 124 #[.pointer (some ⟨w.heap.size, 0, none⟩), .pointer (some ⟨w.heap.size + 1, 0, none⟩)] (fun row => row.length = C) (fun row => row.getD x 0 == v) w2 (enters_of Try.func124 (by kernel_rfl) rfl) HM.out HOK.out (fun row u w5 hr hw hu => placePred_any u row x v (w.heap.size) (w.heap.size + 1) w5 (below_cell hw (Nat.lt_of_succ_lt HS2.out) HX2.out) (below_cell hw HS2.out HV2.out) hu (by rw [hr]; exact HXC.out)))
  go_wp2_with (go_at_call 99; refine HCON.out.mono ?_; rintro e w3 ⟨rfl, b3⟩; have B3 := hide (HB2.out.trans (b3.mono HB2.out.size)); clear b3)
  go_ret
  exact ⟨rfl, B3.out⟩
theorem implPlace_any (va vb : Value) (r c : List Int) (y x v : Int) (w : World) (ha : InRow w va r) (hb : InRow w vb c) :
    Calls Try.prog 87 #[va, vb, .int .i64 y, .int .i64 x, .int .i64 v] w fun e w' => e = .returned (.bool (placeOf r c y x v)) ∧ Below w.heap.size w w' := by
  cases h : existsOf r c with
  | false => exact implPlace_no va vb r c y x v w ha hb h
  | true =>
    by_cases ho : 0 ≤ y ∧ y < r.length ∧ 0 ≤ x ∧ x < c.length
    · obtain ⟨h1, h2, h3, h4⟩ := ho
      obtain ⟨y', rfl⟩ : ∃ y' : Nat, y = y' := ⟨y.toNat, by omega⟩
      obtain ⟨x', rfl⟩ : ∃ x' : Nat, x = x' := ⟨x.toNat, by omega⟩
      exact implPlace_in va vb r c y' x' v w ha hb h (by omega) (by omega)
    · exact implPlace_out va vb r c y x v w ha hb h ho
end Go.Proofs.Ytcliiefedmiokaa
/-
  TransposeOf, MirrorOf, InvertOf of the model.
-/
namespace Go.Proofs.Ytcliiefedmiokaa
open Go.RowKit
set_option linter.unusedVariables false

def upTr (C : Nat) (f : Nat → Nat → Int) (y x a b : Nat) : Int := if b < y ∨ (b = y ∧ a < x) then f b a else 0
theorem upTr_zero (R C : Nat) (f : Nat → Nat → Int) : mkM C R zeroM = mkM C R (upTr C f 0 0) := mkM_congr fun a b ha hb => by rw [upTr, if_neg (by omega)]; rfl
theorem upTr_set (R C : Nat) (f : Nat → Nat → Int) (y x : Nat) (hy : y < R) (hx : x < C) (z : Int) (hz : f y x = z) :
    mkM C R (fun a b => if a = x ∧ b = y then z else upTr C f y x a b) = mkM C R (upTr C f y (x + 1)) := mkM_congr fun a b ha hb => by
  simp only [upTr]
  by_cases e : a = x ∧ b = y
  · obtain ⟨rfl, rfl⟩ := e
    rw [if_pos ⟨rfl, rfl⟩, if_pos (by omega), ← hz]
  · rw [if_neg e]
    by_cases hl : b < y ∨ (b = y ∧ a < x)
    · rw [if_pos hl, if_pos (by omega)]
    · rw [if_neg hl, if_neg (by omega)]
theorem upTr_next (R C : Nat) (f : Nat → Nat → Int) (y : Nat) (hy : y < R) : mkM C R (upTr C f y C) = mkM C R (upTr C f (y + 1) 0) := mkM_congr fun a b ha hb => by
  simp only [upTr]
  by_cases hl : b < y + 1
  · rw [if_pos (by omega), if_pos (by omega)]
  · rw [if_neg (by omega), if_neg (by omega)]
theorem upTr_all (R C : Nat) (f : Nat → Nat → Int) : mkM C R (upTr C f R 0) = mkM C R (trM f) := mkM_congr fun a b ha hb => by
  rw [upTr, if_pos (by omega)]; rfl
set_option maxHeartbeats 400000 in
theorem specTransposeOf_no (v : Value) (m : List (List Int)) (w : World) (hin : InMat w v m) (h : okB m = false) :
    Calls Try.prog 55 #[v] w (MatRes [] w) := by
  have HI := hide hin; have H := hide h
  clear hin h
  go_enter Try.func55, Try.ntmps55
  go_wp2_with (with_reducible refine (specImageOk_any v m _ HI.out).mono ?_; rw [H.out]; rintro e w' ⟨rfl, rfl⟩)
  go_ret
  exact matRes_nil (Below.refl _ _)
set_option maxHeartbeats 1000000 in
theorem specTransposeOf_yes (v : Value) (R C : Nat) (f : Nat → Nat → Int) (w : World) (hin : InMat w v (mkM R C f)) (hI : Img R C f) :
    Calls Try.prog 55 #[v] w (MatRes (mkM C R (trM f)) w) := by
  have HI := hide hin; have H := hide (img_ok hI); have HX := hide hI
  have hR1 := hI.r1; have hC1 := hI.c1; have hR := hI.r2; have hC := hI.c2
  obtain ⟨g, o, c, rfl, hg, hcell⟩ := inMat_img hin (by omega) (by omega)
  have HC := hide hcell
  obtain ⟨g0, o0, c0, hx0, -⟩ := hcell 0 (by omega)
  rw [Nat.add_zero] at hx0
  clear hin hI hcell
  go_enter Try.func55, Try.ntmps55
  go_wp2_with (first | (with_reducible refine (specImageOk_any _ _ _ HI.out).mono ?_; rw [H.out]; rintro e w' ⟨rfl, rfl⟩))
  refine (l02Empty_any C R _ (by omega) (by omega)).mono ?_
  rintro e w3 ⟨v3, rfl, o3, b3⟩
  rw [upTr_zero R C f] at o3
  obtain ⟨gv, cv, rfl⟩ := ownMat_some o3 (by rw [mkM_len]; omega)
  obtain ⟨hi, hhi⟩ : ∃ hi, hi = w3.heap.size := ⟨_, rfl⟩
  rw [← hhi] at o3
  rw [mkM_len] at *
  have B3 := hide b3; have O3 := hide o3
  have hge : hi ≤ w3.heap.size := by omega
  clear b3 o3 hhi hx0
  go_wp2
  go_loopw [20] (fun i w' => ∃ y : Nat, y ≤ R ∧ i = .int .i64 y ∧ hi ≤ w'.heap.size ∧ OwnMat w' w.heap.size hi (.slice (some ⟨gv, 0, none⟩) C cv) (mkM C R (upTr C f y 0)) ∧ Below w.heap.size w w') (fun i _ => R - (intOf i).toNat)
  case atStart => exact ⟨0, by omega, rfl, hge, O3.out, B3.out⟩

  case round =>
    clear B3 O3 hge
    obtain ⟨y, hy, rfl, hhi, hown, hb⟩ := hrel
    have HO := hide hown; have HB := hide hb
    clear hown hb
    by_cases hlt : y < R
    · have hyI : (y : Int) < R := by omega
      obtain ⟨g', o', c', hx, hg', hcc⟩ := HC.out y hlt
      have hx := below_cell HB.out hg hx
      have HCC := hide hcc
      clear hcc
      go_wp2
      go_loopw [27] (fun i w' => ∃ x : Nat, x ≤ C ∧ i = .int .i64 x ∧ hi ≤ w'.heap.size ∧ OwnMat w' w.heap.size hi (.slice (some ⟨gv, 0, none⟩) C cv) (mkM C R (upTr C f y x)) ∧ Below w.heap.size w w') (fun i _ => C - (intOf i).toNat)
      case atStart => exact ⟨0, by omega, rfl, hhi, HO.out, HB.out⟩
      case round =>
        clear HO HB hx hhi
        obtain ⟨x, hxx, rfl, hhi, hown, hb⟩ := hrel
        have HO := hide hown; have HB := hide hb
        clear hown hb
        by_cases hlx : x < C
        · have hxI : (x : Int) < C := by omega
          have hz := below_cell HB.out hg' (HCC.out x hlx)
          obtain ⟨gr, cr, hrow, hcl, hfr, hlo, hgh, hset⟩ := ownMat_cell HO.out (x) (y) (by omega) (by omega)
          have HSET := hide hset
          clear hset
          skip
          have HS := hide (upTr_set R C f y x hlt hlx _ rfl)
          go_wp2
          go_roundw
          case rel => exact ⟨x + 1, by omega, by go_num, by simpa [World.setCell] using hhi, by have := HSET.out (f y x); rw [HS.out] at this; exact this, HB.out.setCell hlo _⟩
          case measure => simp [intOf]; omega
        · obtain rfl : x = C := by omega
          have HS := hide (upTr_next R x f y hlt)
          rw [HS.out] at HO
          clear HS
          go_wp2
          go_roundw
          case rel => exact ⟨y + 1, by omega, by go_num, hhi, HO.out, HB.out⟩
          case measure => simp [intOf]; omega
    · obtain rfl : y = R := by omega
      have HS := hide (upTr_all y C f)
      rw [HS.out] at HO
      clear HS
      go_wp2
      go_ret
      exact ⟨_, rfl, ownMat_mono HO.out (Nat.le_refl _) hhi, HB.out⟩

def upMi (C : Nat) (f : Nat → Nat → Int) (y x a b : Nat) : Int := if a < y ∨ (a = y ∧ C - 1 - b < x) then f a (C - 1 - b) else 0
theorem upMi_zero (R C : Nat) (f : Nat → Nat → Int) : mkM R C zeroM = mkM R C (upMi C f 0 0) := mkM_congr fun a b ha hb => by rw [upMi, if_neg (by omega)]; rfl
theorem upMi_set (R C : Nat) (f : Nat → Nat → Int) (y x : Nat) (hy : y < R) (hx : x < C) (z : Int) (hz : f y x = z) :
    mkM R C (fun a b => if a = y ∧ b = C - 1 - x then z else upMi C f y x a b) = mkM R C (upMi C f y (x + 1)) := mkM_congr fun a b ha hb => by
  simp only [upMi]
  by_cases e : a = y ∧ b = C - 1 - x
  · obtain ⟨rfl, rfl⟩ := e
    rw [if_pos ⟨rfl, rfl⟩, if_pos (by omega), ← hz]; rw [show C - 1 - (C - 1 - x) = x by omega]
  · rw [if_neg e]
    by_cases hl : a < y ∨ (a = y ∧ C - 1 - b < x)
    · rw [if_pos hl, if_pos (by omega)]
    · rw [if_neg hl, if_neg (by omega)]
theorem upMi_next (R C : Nat) (f : Nat → Nat → Int) (y : Nat) (hy : y < R) : mkM R C (upMi C f y C) = mkM R C (upMi C f (y + 1) 0) := mkM_congr fun a b ha hb => by
  simp only [upMi]
  by_cases hl : a < y + 1
  · rw [if_pos (by omega), if_pos (by omega)]
  · rw [if_neg (by omega), if_neg (by omega)]
theorem upMi_all (R C : Nat) (f : Nat → Nat → Int) : mkM R C (upMi C f R 0) = mkM R C (mirM C f) := mkM_congr fun a b ha hb => by
  rw [upMi, if_pos (by omega)]; rfl
def upIn (C : Nat) (f : Nat → Nat → Int) (y x a b : Nat) : Int := if a < y ∨ (a = y ∧ b < x) then 1 - f a b else 0
theorem upIn_zero (R C : Nat) (f : Nat → Nat → Int) : mkM R C zeroM = mkM R C (upIn C f 0 0) := mkM_congr fun a b ha hb => by rw [upIn, if_neg (by omega)]; rfl
theorem upIn_set (R C : Nat) (f : Nat → Nat → Int) (y x : Nat) (hy : y < R) (hx : x < C) (z : Int) (hz : 1 - f y x = z) :
    mkM R C (fun a b => if a = y ∧ b = x then z else upIn C f y x a b) = mkM R C (upIn C f y (x + 1)) := mkM_congr fun a b ha hb => by
  simp only [upIn]
  by_cases e : a = y ∧ b = x
  · obtain ⟨rfl, rfl⟩ := e
    rw [if_pos ⟨rfl, rfl⟩, if_pos (by omega), ← hz]
  · rw [if_neg e]
    by_cases hl : a < y ∨ (a = y ∧ b < x)
    · rw [if_pos hl, if_pos (by omega)]
    · rw [if_neg hl, if_neg (by omega)]
theorem upIn_next (R C : Nat) (f : Nat → Nat → Int) (y : Nat) (hy : y < R) : mkM R C (upIn C f y C) = mkM R C (upIn C f (y + 1) 0) := mkM_congr fun a b ha hb => by
  simp only [upIn]
  by_cases hl : a < y + 1
  · rw [if_pos (by omega), if_pos (by omega)]
  · rw [if_neg (by omega), if_neg (by omega)]
theorem upIn_all (R C : Nat) (f : Nat → Nat → Int) : mkM R C (upIn C f R 0) = mkM R C (invM f) := mkM_congr fun a b ha hb => by
  rw [upIn, if_pos (by omega)]; rfl
end Go.Proofs.Ytcliiefedmiokaa
/-
  ColSums of the model.
-/
namespace Go.Proofs.Ytcliiefedmiokaa
open Go.RowKit

theorem specColSums_no (v : Value) (m : List (List Int)) (w : World) (hin : InMat w v m) (h : okB m = false) :
    Calls Try.prog 21 #[v] w (IntsRes [] w) := by
  have HI := hide hin; have H := hide h
  clear hin h
  go_enter Try.func21, Try.ntmps21
  go_wp2_with fail
  refine (specTransposeOf_no v m _ HI.out H.out).mono ?_
  rintro e w1 ⟨u, rfl, ho, hb⟩
  have HM := hide (inMat_own ho); have HB := hide hb
  clear ho hb
  go_wp2_with fail
  refine (specRowSums_no u [] _ HM.out (by decide)).mono ?_
  rintro e w2 ⟨u2, rfl, ho, hb⟩
  have HO := hide (own_base ho HB.out.size); have HB2 := hide (HB.out.trans (hb.mono HB.out.size))
  clear ho hb
  go_wp2
  go_ret
  exact ⟨_, rfl, HO.out, HB2.out⟩
theorem specColSums_yes (v : Value) (R C : Nat) (f : Nat → Nat → Int) (w : World) (hin : InMat w v (mkM R C f)) (hI : Img R C f) :
    Calls Try.prog 21 #[v] w (IntsRes (rowsL C R (trM f)) w) := by
  have HI := hide hin; have H := hide hI
  clear hin hI
  go_enter Try.func21, Try.ntmps21
  go_wp2_with fail
  refine (specTransposeOf_yes v R C f _ HI.out H.out).mono ?_
  rintro e w1 ⟨u, rfl, ho, hb⟩
  have HM := hide (inMat_own ho); have HB := hide hb
  clear ho hb
  go_wp2_with fail
  refine (specRowSums_yes u C R (trM f) _ HM.out (img_tr H.out)).mono ?_
  rintro e w2 ⟨u2, rfl, ho, hb⟩
  have HO := hide (own_base ho HB.out.size); have HB2 := hide (HB.out.trans (hb.mono HB.out.size))
  clear ho hb
  go_wp2
  go_ret
  exact ⟨_, rfl, HO.out, HB2.out⟩
end Go.Proofs.Ytcliiefedmiokaa
/-
  ColSums of both.
-/
namespace Go.Proofs.Ytcliiefedmiokaa
open Go.RowKit

theorem implColSums_no (v : Value) (m : List (List Int)) (w : World) (hin : InMat w v m) (h : okB m = false) :
    Calls Try.prog 22 #[v] w (IntsRes [] w) := by
  have HI := hide hin; have H := hide h
  clear hin h
  go_enter Try.func22, Try.ntmps22
  go_wp2_with fail
  refine (implTransposeOf_no v m _ HI.out H.out).mono ?_
  rintro e w1 ⟨u, rfl, ho, hb⟩
  have HM := hide (inMat_own ho); have HB := hide hb
  clear ho hb
  go_wp2_with fail
  refine (implRowSums_no u [] _ HM.out (by decide)).mono ?_
  rintro e w2 ⟨u2, rfl, ho, hb⟩
  have HO := hide (own_base ho HB.out.size); have HB2 := hide (HB.out.trans (hb.mono HB.out.size))
  clear ho hb
  go_wp2
  go_ret
  exact ⟨_, rfl, HO.out, HB2.out⟩
theorem implColSums_yes (v : Value) (R C : Nat) (f : Nat → Nat → Int) (w : World) (hin : InMat w v (mkM R C f)) (hI : Img R C f) :
    Calls Try.prog 22 #[v] w (IntsRes (rowsL C R (trM f)) w) := by
  have HI := hide hin; have H := hide hI
  clear hin hI
  go_enter Try.func22, Try.ntmps22
  go_wp2_with fail
  refine (implTransposeOf_yes v R C f _ HI.out H.out).mono ?_
  rintro e w1 ⟨u, rfl, ho, hb⟩
  have HM := hide (inMat_own ho); have HB := hide hb
  clear ho hb
  go_wp2_with fail
  refine (implRowSums_yes u C R (trM f) _ HM.out (img_tr H.out)).mono ?_
  rintro e w2 ⟨u2, rfl, ho, hb⟩
  have HO := hide (own_base ho HB.out.size); have HB2 := hide (HB.out.trans (hb.mono HB.out.size))
  clear ho hb
  go_wp2
  go_ret
  exact ⟨_, rfl, HO.out, HB2.out⟩

end Go.Proofs.Ytcliiefedmiokaa
/-
  Lists of integers held against one another: slices.Equal.
-/
namespace Go.Proofs.Ytcliiefedmiokaa
open Go.RowKit

theorem sameRow_no {r s : List Int} (h : r.length ≠ s.length) : (r == s) = false := by
  rw [beq_eq_false_iff_ne]; intro e; exact h (by rw [e])
theorem sameRow_no2 {r s : List Int} (k : Nat) (hr : k < r.length) (hs : k < s.length) (h : r[k] ≠ s[k]) : (r == s) = false := by
  rw [beq_eq_false_iff_ne]; intro e; subst e; exact h rfl
theorem sameRow_yes {r s : List Int} (h : r.length = s.length) (h2 : ∀ k, (hr : k < r.length) → (hs : k < s.length) → r[k] = s[k]) : (r == s) = true := by
  rw [beq_iff_eq]; exact List.ext_getElem h h2
theorem sameMat_no {r s : List (List Int)} (h : r.length ≠ s.length) : (r == s) = false := by
  rw [beq_eq_false_iff_ne]; intro e; exact h (by rw [e])
theorem sameMat_no2 {r s : List (List Int)} (k : Nat) (hr : k < r.length) (hs : k < s.length) (h : (r[k] == s[k]) = false) : (r == s) = false := by
  rw [beq_eq_false_iff_ne] at h ⊢; intro e; subst e; exact h rfl
theorem sameMat_yes {r s : List (List Int)} (h : r.length = s.length) (h2 : ∀ k, (hr : k < r.length) → (hs : k < s.length) → (r[k] == s[k]) = true) : (r == s) = true := by
  rw [beq_iff_eq]; exact List.ext_getElem h fun k h1 h2' => by simpa using h2 k h1 h2'

set_option maxHeartbeats 1000000 in
theorem l02Same_any (va vb : Value) (r s : List Int) (w : World) (ha : InRow w va r) (hb : InRow w vb s) :
    Calls Try.prog 64 #[va, vb] w fun e w' => e = .returned (.bool (r == s)) ∧ w = w' := by
  obtain ⟨a, ca, rfl, hma, hpa⟩ := ha
  obtain ⟨b, cb, rfl, hmb, hpb⟩ := hb
  unfold maxLen at hma hmb
  by_cases hlen : r.length = s.length
  · by_cases h0 : r.length = 0
    · have hr : r = [] := List.eq_nil_of_length_eq_zero h0
      have hs : s = [] := List.eq_nil_of_length_eq_zero (by omega)
      subst hr; subst hs
      clear hpa hpb hma hmb hlen h0
      go_enter Try.func64, Try.ntmps64
      go_wp2
      go_loop [14] (fun i => i = .int .i64 0) (fun _ => 0)
      case atStart => rfl
      case round =>
        obtain rfl := hrel
        go_wp2
        go_ret
        exact ⟨rfl, rfl⟩
    · obtain ⟨ga, oa, rfl, -, hca⟩ := hpa.resolve_left h0
      obtain ⟨gb, ob, rfl, -, hcb⟩ := hpb.resolve_left (by omega)
      have HA := hide hca; have HB := hide hcb; have HL := hide hlen
      obtain ⟨n, hn⟩ : ∃ n, n = r.length := ⟨_, rfl⟩
      have HN := hide hn
      have HM : Hid (s.length = n) := hide (by omega)
      rw [← hlen, ← hn]
      rw [← hn] at hma
      clear hpa hpb hca hcb h0 hmb hlen hn
      go_enter Try.func64, Try.ntmps64
      go_wp2
      go_loop [14] (fun i => ∃ k : Nat, k ≤ n ∧ i = .int .i64 k ∧ ∀ t, (h1 : t < r.length) → (h2 : t < s.length) → t < k → r[t] = s[t]) (fun i => n - (intOf i).toNat)
      case atStart => exact ⟨0, Nat.zero_le _, rfl, fun t _ _ h => absurd h (Nat.not_lt_zero _)⟩
      case round =>
        obtain ⟨k, hk, rfl, hall⟩ := hrel
        have HH := hide hall
        clear hall
        by_cases hlt : k < n
        · have hkr : k < r.length := by rw [← HN.out]; exact hlt
          have hks : k < s.length := by rw [HM.out]; exact hlt
          have hxa := HA.out k hkr
          have hxb := HB.out k hks
          have HNO := hide (fun h => sameRow_no2 k hkr hks h)
          have HST : Hid (r[k] = s[k] → ∀ t, (h1 : t < r.length) → (h2 : t < s.length) → t < k + 1 → r[t] = s[t]) := hide fun h t h1 h2 ht => by
            by_cases e : t = k
            · subst e; exact h
            · exact HH.out t h1 h2 (by omega)
          obtain ⟨x, hx⟩ : ∃ x, x = r[k] := ⟨_, rfl⟩
          obtain ⟨y, hy⟩ : ∃ y, y = s[k] := ⟨_, rfl⟩
          rw [← hx, ← hy] at HNO HST
          rw [← hx] at hxa
          rw [← hy] at hxb
          clear hx hy
          by_cases e : x = y
          · subst e
            have HST := hide (HST.out rfl)
            go_wp2
            go_round
            case rel => exact ⟨k + 1, by omega, by go_num, HST.out⟩
            case measure => simp [intOf]; omega
          · have HF := hide (HNO.out e)
            have hne : (x == y) = false := by simpa using e
            have hne2 : (x != y) = true := by simpa using e
            clear e
            go_wp2
            go_ret
            exact ⟨ret_bool HF.out.symm, rfl⟩
        · have HY := hide (sameRow_yes HL.out fun t h1 h2 => HH.out t h1 h2 (by have := HN.out; omega))
          go_wp2
          go_ret
          exact ⟨ret_bool HY.out.symm, rfl⟩
  · have HF := hide (sameRow_no hlen)
    obtain ⟨n, hn⟩ : ∃ n, n = r.length := ⟨_, rfl⟩
    obtain ⟨k, hk⟩ : ∃ k, k = s.length := ⟨_, rfl⟩
    rw [← hn, ← hk] at hlen ⊢
    rw [← hn] at hma
    rw [← hk] at hmb
    have hne : ((n : Int) == (k : Int)) = false := by simp; omega
    have hne2 : ((n : Int) != (k : Int)) = true := by simp; omega
    clear hpa hpb hn hk hlen
    go_enter Try.func64, Try.ntmps64
    go_wp2
    go_ret
    exact ⟨ret_bool HF.out.symm, rfl⟩

theorem equal_any (va vb : Value) (r s : List Int) (w : World) (ha : InRow w va r) (hb : InRow w vb s) :
    Calls Try.prog 101 #[va, vb] w fun e w' => e = .returned (.bool (r == s)) ∧ Below w.heap.size w w' := by
  obtain ⟨a, ca, rfl, hma, hpa⟩ := ha
  obtain ⟨b, cb, rfl, hmb, hpb⟩ := hb
  unfold maxLen at hma hmb
  by_cases hlen : r.length = s.length
  · by_cases h0 : r.length = 0
    · have hr : r = [] := List.eq_nil_of_length_eq_zero h0
      have hs : s = [] := List.eq_nil_of_length_eq_zero (by omega)
      subst hr; subst hs
      refine (Try.slices_Equal_int_empty a b ca 0 cb w (by omega)).mono ?_
      rintro e w' ⟨rfl, rfl⟩
      exact ⟨rfl, Below.refl _ _⟩
    · obtain ⟨ga, oa, rfl, -, hca⟩ := hpa.resolve_left h0
      obtain ⟨gb, ob, rfl, -, hcb⟩ := hpb.resolve_left (by omega)
      refine (Try.slices_Equal_int ga oa r.length ca gb ob s.length cb r s w (Nat.le_refl _) (Nat.le_refl _) hma hmb (fun j hj => ?_) (fun j hj => ?_)).mono ?_
      · rw [hca j hj, List.getD_eq_getElem?_getD, List.getElem?_eq_getElem hj]; rfl
      · rw [hcb j hj, List.getD_eq_getElem?_getD, List.getElem?_eq_getElem hj]; rfl
      rintro e w' ⟨rfl, q, rfl⟩
      refine ⟨ret_bool (by rw [List.take_length, List.take_length]), below_draws (Below.refl _ _) q⟩
  · refine (Try.slices_Equal_int_lens a b r.length ca s.length cb w hlen).mono ?_
    rintro e w' ⟨rfl, rfl⟩
    exact ⟨ret_bool (sameRow_no hlen).symm, Below.refl _ _⟩
end Go.Proofs.Ytcliiefedmiokaa
/-
  SameImage, of the model and of the program, and the exact law, walked.
-/
namespace Go.Proofs.Ytcliiefedmiokaa
open Go.RowKit

set_option maxHeartbeats 1000000 in
theorem specSameImage_any (va vb : Value) (m l : List (List Int)) (w : World) (ha : InMat w va m) (hb : InMat w vb l) :
    Calls Try.prog 121 #[va, vb] w fun e w' => e = .returned (.bool (m == l)) ∧ Below w.heap.size w w' := by
  obtain ⟨a, ca, rfl, hma, hpa⟩ := ha
  obtain ⟨b, cb, rfl, hmb, hpb⟩ := hb
  unfold maxLen at hma hmb
  by_cases hlen : m.length = l.length
  · by_cases h0 : m.length = 0
    · have hr : m = [] := List.eq_nil_of_length_eq_zero h0
      have hs : l = [] := List.eq_nil_of_length_eq_zero (by omega)
      subst hr; subst hs
      clear hpa hpb hma hmb hlen h0
      go_enter Try.func121, Try.ntmps121
      go_wp2
      go_loop [14] (fun i => i = .int .i64 0) (fun _ => 0)
      case atStart => rfl
      case round =>
        obtain rfl := hrel
        go_wp2
        go_ret
        exact ⟨rfl, Below.refl _ _⟩
    · obtain ⟨ga, oa, rfl, hga, hca⟩ := hpa.resolve_left h0
      obtain ⟨gb, ob, rfl, hgb, hcb⟩ := hpb.resolve_left (by omega)
      have HA := hide hca; have HB := hide hcb; have HL := hide hlen
      obtain ⟨n, hn⟩ : ∃ n, n = m.length := ⟨_, rfl⟩
      have HN := hide hn
      have HM : Hid (l.length = n) := hide (by omega)
      rw [← hlen, ← hn]
      rw [← hn] at hma
      clear hpa hpb hca hcb h0 hmb hlen hn
      go_enter Try.func121, Try.ntmps121
      go_wp2
      go_loopw [14] (fun i w' => ∃ k : Nat, k ≤ n ∧ i = .int .i64 k ∧ (∀ t, (h1 : t < m.length) → (h2 : t < l.length) → t < k → (m[t] == l[t]) = true) ∧ Below w.heap.size w w') (fun i _ => n - (intOf i).toNat)
      case atStart => exact ⟨0, Nat.zero_le _, rfl, fun t _ _ h => absurd h (Nat.not_lt_zero _), Below.refl _ _⟩
      case round =>
        obtain ⟨k, hk, rfl, hall, hbb⟩ := hrel
        have HH := hide hall; have HBB := hide hbb
        clear hall hbb
        by_cases hlt : k < n
        · have hkr : k < m.length := by rw [← HN.out]; exact hlt
          have hks : k < l.length := by rw [HM.out]; exact hlt
          obtain ⟨ua, hxa, hra⟩ := HA.out k hkr
          obtain ⟨ub, hxb, hrb⟩ := HB.out k hks
          have hxa := below_cell HBB.out hga hxa
          have hxb := below_cell HBB.out hgb hxb
          have HRA := hide (inRow_below hra HBB.out)
          have HRB := hide (inRow_below hrb HBB.out)
          have HNO := hide (fun h => sameMat_no2 k hkr hks h)
          have HST : Hid ((m[k] == l[k]) = true → ∀ t, (h1 : t < m.length) → (h2 : t < l.length) → t < k + 1 → (m[t] == l[t]) = true) := hide fun h t h1 h2 ht => by
            by_cases e : t = k
            · subst e; exact h
            · exact HH.out t h1 h2 (by omega)
          clear hra hrb
          cases e : (m[k] == l[k]) with
          | true =>
            have HE := hide e
            have HST := hide (HST.out e)
            clear e
            go_wp2_with (go_at_call 64; refine (l02Same_any _ _ _ _ _ HRA.out HRB.out).mono ?_; rw [HE.out]; rintro e w9 ⟨rfl, rfl⟩)
            go_roundw
            case rel => exact ⟨k + 1, by omega, by go_num, HST.out, HBB.out⟩
            case measure => simp [intOf]; omega
          | false =>
            have HE := hide e
            have HF := hide (HNO.out e)
            clear e
            go_wp2_with (go_at_call 64; refine (l02Same_any _ _ _ _ _ HRA.out HRB.out).mono ?_; rw [HE.out]; rintro e w9 ⟨rfl, rfl⟩)
            go_ret
            exact ⟨ret_bool HF.out.symm, HBB.out⟩
        · have HY := hide (sameMat_yes HL.out fun t h1 h2 => HH.out t h1 h2 (by have := HN.out; omega))
          go_wp2
          go_ret
          exact ⟨ret_bool HY.out.symm, HBB.out⟩
  · have HF := hide (sameMat_no hlen)
    obtain ⟨n, hn⟩ : ∃ n, n = m.length := ⟨_, rfl⟩
    obtain ⟨k, hk⟩ : ∃ k, k = l.length := ⟨_, rfl⟩
    rw [← hn, ← hk] at hlen ⊢
    rw [← hn] at hma
    rw [← hk] at hmb
    have hne : ((n : Int) == (k : Int)) = false := by simp; omega
    have hne2 : ((n : Int) != (k : Int)) = true := by simp; omega
    clear hpa hpb hn hk hlen
    go_enter Try.func121, Try.ntmps121
    go_wp2
    go_ret
    exact ⟨ret_bool HF.out.symm, Below.refl _ _⟩

end Go.Proofs.Ytcliiefedmiokaa
/-
  PutCell and DistanceOf of the program.
-/
namespace Go.Proofs.Ytcliiefedmiokaa
open Go.RowKit

/-- The whole variable is read, behind a guard that says yes. -/
theorem wpList_loadVecG {P : Program} {ops : Array Oper} {rest : List Oper} {o : Oper} {a : Act} {Q : Exit → Act → World → Prop} {W : World} {g n m : Nat} {T T' e : TypeId} {F : Nat → Int} (hb : Blk W g T n F) (d : Tmp) (_hd : o.dst = some d)
    (hw : Region.wanted o (yielded ops a.tmps) = true) (x : Operand) (ho : o.op = .load T' x) (hx : a.eval x = .pointer (some ⟨g, 0, none⟩)) (hu : P.underlying T' = some (.array m e)) (hi : (P.info? T').map (·.size) = some n)
    (h : wpList P ops Q rest (a.put o.dst (.agg (vec n F))) W) : wpList P ops Q (o :: rest) a W :=
  BigFrame.wpList_want hw fun K hK => wp_load_row T' x ho g hx T (vec n F) (0, 0) _ hb hu rfl (by rw [hi, vec_size]) (hK _ _ h)

/-- The image with another cell. -/
def putM (f : Nat → Nat → Int) (a b : Nat) (c : Int) (y x : Nat) : Int := if y = a ∧ x = b then c else f y x
theorem img_put {R C : Nat} {f : Nat → Nat → Int} (h : Img R C f) (a b : Nat) {c : Int} (hc : c = 0 ∨ c = 1) : Img R C (putM f a b c) := ⟨h.r1, h.r2, h.c1, h.c2, fun y x hy hx => by
  unfold putM; split
  · exact hc
  · exact h.cell y x hy hx⟩
theorem imgF_put (R C : Nat) (f : Nat → Nat → Int) (a b : Nat) (c : Int) (ha : a < R) (hb : b < C) (hC : C ≤ 5) : ∀ i, i < 25 → (if i = 5 * a + b then c else imgF R C f i) = imgF R C (putM f a b c) i := fun i hi => by
  simp only [imgF, putM]
  by_cases e : i = 5 * a + b
  · subst e
    rw [if_pos rfl, if_pos (by omega), if_pos (by omega)]
  · rw [if_neg e]
    by_cases h : i / 5 < R ∧ i % 5 < C
    · rw [if_pos h, if_pos h, if_neg (by omega)]
    · rw [if_neg h, if_neg h]

end Go.Proofs.Ytcliiefedmiokaa
/-
  DistanceOf of the program.
-/
namespace Go.Proofs.Ytcliiefedmiokaa
open Go.RowKit

theorem imageOf_any (v : Value) (m : List (List Int)) (w : World) (hin : InMat w v m) :
    Calls Try.prog 74 #[v] w fun e w' => (∃ F, e = .returned (.tuple #[.agg (vec 25 F), .bool (okB m)])) ∧ Below w.heap.size w w' := by
  cases h : okB m with
  | false =>
    refine (imageOf_no v m w hin h).mono ?_
    rintro e w' ⟨rfl, hb⟩
    exact ⟨⟨_, rfl⟩, hb⟩
  | true =>
    obtain ⟨R, C, f, rfl, hI⟩ := ok_img h
    refine (imageOf_yes v R C f w hin hI).mono ?_
    rintro e w' ⟨rfl, hb⟩
    exact ⟨⟨_, rfl⟩, hb⟩
theorem imgF_none {R C : Nat} {f : Nat → Nat → Int} (h : Img R C f) (i : Nat) : imgF R C f i = -1 ↔ ¬ (i / 5 < R ∧ i % 5 < C) := by
  unfold imgF
  by_cases hi : i / 5 < R ∧ i % 5 < C
  · rw [if_pos hi]
    constructor
    · intro e; rcases h.cell _ _ hi.1 hi.2 with e' | e' <;> rw [e'] at e <;> cases e
    · intro e; exact absurd hi e
  · rw [if_neg hi]; exact ⟨fun _ => hi, fun _ => rfl⟩
theorem same_sizes {R C R' C' : Nat} {f g : Nat → Nat → Int} (h : Img R C f) (h' : Img R' C' g) : decide (R = R' ∧ C = C') = true ↔ ∀ i, i < 25 → (imgF R C f i = -1 ↔ imgF R' C' g i = -1) := by
  have a1 := h.r1; have a2 := h.r2; have a3 := h.c1; have a4 := h.c2
  have b1 := h'.r1; have b2 := h'.r2; have b3 := h'.c1; have b4 := h'.c2
  rw [decide_eq_true_eq]
  constructor
  · rintro ⟨rfl, rfl⟩ i hi
    rw [imgF_none h, imgF_none h']
  · intro hall
    have hq : ∀ y x, y < 5 → x < 5 → ((y < R ∧ x < C) ↔ (y < R' ∧ x < C')) := fun y x hy hx => by
      have := hall (5 * y + x) (by omega)
      rw [imgF_none h, imgF_none h', show (5 * y + x) / 5 = y by omega, show (5 * y + x) % 5 = x by omega] at this
      exact ⟨fun h1 => Decidable.byContradiction fun n => (this.2 n) h1, fun h1 => Decidable.byContradiction fun n => (this.1 n) h1⟩
    constructor
    · by_cases l : R < R'
      · have := (hq R 0 (by omega) (by omega)).2 ⟨l, by omega⟩; omega
      · by_cases l2 : R' < R
        · have := (hq R' 0 (by omega) (by omega)).1 ⟨l2, by omega⟩; omega
        · omega
    · by_cases l : C < C'
      · have := (hq 0 C (by omega) (by omega)).2 ⟨by omega, l⟩; omega
      · by_cases l2 : C' < C
        · have := (hq 0 C' (by omega) (by omega)).1 ⟨by omega, l2⟩; omega
        · omega
theorem distance_img (R C R' C' : Nat) (f g : Nat → Nat → Int) (w : World) (h : Img R C f) (h' : Img R' C' g) (b : Bool) (hb : decide (R = R' ∧ C = C') = b) :
    Calls Try.prog 77 #[.agg (vec 25 (imgF R C f)), .agg (vec 25 (imgF R' C' g))] w (DistRes b (cnt (fun i => imgF R C f i != imgF R' C' g i) 25) w) := by
  subst hb; exact distance_any _ _ _ _ (same_sizes h h')

set_option maxHeartbeats 1000000 in
theorem implDistanceOf_no (v u : Value) (m k : List (List Int)) (w : World) (hin : InMat w v m) (hin2 : InMat w u k) (h : (okB m && okB k) = false) :
    Calls Try.prog 30 #[v, u] w fun e w' => e = .returned (.int .i64 (-1)) ∧ Below w.heap.size w w' := by
  have HI := hide hin; have HI2 := hide hin2
  clear hin hin2
  obtain ⟨p, hp⟩ : ∃ p, p = okB m := ⟨_, rfl⟩
  obtain ⟨q, hq⟩ : ∃ q, q = okB k := ⟨_, rfl⟩
  rw [← hp, ← hq] at h
  have HP := hide hp.symm; have HQ := hide hq.symm
  clear hp hq
  go_enter Try.func30, Try.ntmps30
  go_wp2_with fail
  refine (imageOf_any v m _ HI.out).mono ?_
  rw [HP.out]
  rintro e w1 ⟨⟨F, rfl⟩, b1⟩
  have B1 := hide b1
  clear b1
  go_wp2_with (first | (with_reducible refine wpList_allocVec 25 5 rfl rfl rfl Try.zeroImg ?_; intro waa haa baa saa) | (with_reducible refine wpList_storeVec haa rfl (.tmp 5) (.tmp 14) rfl rfl rfl Try.sizeImg ?_; intro wba hba gba sba) | (with_reducible refine wpList_loadVec hba 99 rfl rfl _ rfl rfl Try.underlying78 Try.sizeImg ?_))
  have B2 := hide (B1.out.trans ((baa.mono B1.out.size).trans (grown_below gba (fun k hk => by cases hk; exact B1.out.size) (by have := B1.out.size; omega))))
  clear haa baa saa hba gba sba
  refine (imageOf_any u k _ (inMat_below HI2.out B2.out)).mono ?_
  rw [HQ.out]
  rintro e w3 ⟨⟨G, rfl⟩, b3⟩
  have B3 := hide (B2.out.trans (b3.mono B2.out.size))
  clear b3
  cases p with
  | false =>
    go_wp2_with (first | (with_reducible refine wpList_allocVec 25 7 rfl rfl rfl Try.zeroImg ?_; intro wab hab bab sab) | (with_reducible refine wpList_storeVec hab rfl (.tmp 7) (.tmp 19) rfl rfl rfl Try.sizeImg ?_; intro wbb hbb gbb sbb) | (with_reducible refine wpList_loadVec hbb 29 rfl rfl _ rfl rfl Try.underlying78 Try.sizeImg ?_))
    go_ret
    exact ⟨rfl, B3.out.trans ((bab.mono B3.out.size).trans (grown_below gbb (fun k hk => by cases hk; exact B3.out.size) (by have := B3.out.size; omega)))⟩
  | true =>
    obtain rfl : q = false := by simpa using h
    go_wp2_with (first | (with_reducible refine wpList_allocVec 25 7 rfl rfl rfl Try.zeroImg ?_; intro wab hab bab sab) | (with_reducible refine wpList_storeVec hab rfl (.tmp 7) (.tmp 19) rfl rfl rfl Try.sizeImg ?_; intro wbb hbb gbb sbb) | (with_reducible refine wpList_loadVec hbb 29 rfl rfl _ rfl rfl Try.underlying78 Try.sizeImg ?_))
    go_ret
    exact ⟨rfl, B3.out.trans ((bab.mono B3.out.size).trans (grown_below gbb (fun k hk => by cases hk; exact B3.out.size) (by have := B3.out.size; omega)))⟩

set_option maxHeartbeats 1000000 in
theorem implDistanceOf_yes (v u : Value) (R C R' C' : Nat) (f g : Nat → Nat → Int) (w : World) (hin : InMat w v (mkM R C f)) (hin2 : InMat w u (mkM R' C' g)) (h : Img R C f) (h' : Img R' C' g) :
    Calls Try.prog 30 #[v, u] w fun e w' => e = .returned (.int .i64 (if R = R' ∧ C = C' then (cnt (fun i => imgF R C f i != imgF R' C' g i) 25 : Nat) else -1)) ∧ Below w.heap.size w w' := by
  have HI := hide hin; have HI2 := hide hin2; have H := hide h; have H' := hide h'
  clear hin hin2 h h'
  obtain ⟨b, hb⟩ : ∃ b : Bool, decide (R = R' ∧ C = C') = b := ⟨_, rfl⟩
  have HB := hide hb
  have HE : Hid ((if R = R' ∧ C = C' then ((cnt (fun i => imgF R C f i != imgF R' C' g i) 25 : Nat) : Int) else -1) = if b then ((cnt (fun i => imgF R C f i != imgF R' C' g i) 25 : Nat) : Int) else -1) := hide (by
    subst hb
    by_cases e : R = R' ∧ C = C'
    · rw [if_pos e, decide_eq_true e]; rfl
    · rw [if_neg e, decide_eq_false e]; rfl)
  rw [HE.out]
  clear hb HE
  obtain ⟨n, hn⟩ : ∃ n, n = cnt (fun i => imgF R C f i != imgF R' C' g i) 25 := ⟨_, rfl⟩
  have HN := hide hn.symm
  rw [← hn]
  clear hn
  go_enter Try.func30, Try.ntmps30
  go_wp2_with fail
  refine (imageOf_yes v R C f _ HI.out H.out).mono ?_
  rintro e w1 ⟨rfl, b1⟩
  have B1 := hide b1
  clear b1
  go_wp2_with (first | (with_reducible refine wpList_allocVec 25 5 rfl rfl rfl Try.zeroImg ?_; intro waa haa baa saa) | (with_reducible refine wpList_storeVec haa rfl (.tmp 5) (.tmp 14) rfl rfl rfl Try.sizeImg ?_; intro wba hba gba sba) | (with_reducible refine wpList_loadVec hba 99 rfl rfl _ rfl rfl Try.underlying78 Try.sizeImg ?_))
  have B2 := hide (B1.out.trans ((baa.mono B1.out.size).trans (grown_below gba (fun k hk => by cases hk; exact B1.out.size) (by have := B1.out.size; omega))))
  have HA := hide hba
  clear haa baa saa hba gba sba
  refine (imageOf_yes u R' C' g _ (inMat_below HI2.out B2.out) H'.out).mono ?_
  rintro e w3 ⟨rfl, b3⟩
  have B3 := hide (B2.out.trans (b3.mono B2.out.size))
  have HA := hide (blk_below HA.out b3)
  clear b3
  go_wp2_with (first | (with_reducible refine wpList_allocVec 25 7 rfl rfl rfl Try.zeroImg ?_; intro wab hab bab sab) | (with_reducible refine wpList_storeVec hab rfl (.tmp 7) (.tmp 19) rfl rfl rfl Try.sizeImg ?_; intro wbb hbb gbb sbb) | (with_reducible refine wpList_loadVec hbb 29 rfl rfl _ rfl rfl Try.underlying78 Try.sizeImg ?_) | (with_reducible refine wpList_loadVec (blk_grown (blk_below HA.out bab) gbb (by have := blk_lt HA.out; simp; omega)) 28 rfl rfl _ rfl rfl Try.underlying78 Try.sizeImg ?_))
  have B4 := hide (B3.out.trans ((bab.mono B3.out.size).trans (grown_below gbb (fun k hk => by cases hk; exact B3.out.size) (by have := B3.out.size; omega))))
  clear hab bab sab hbb gbb sbb HA
  refine (distance_img R C R' C' f g _ H.out H'.out b HB.out).mono ?_
  rw [HN.out]
  rintro e w5 ⟨rfl, b5⟩
  have B5 := hide (B4.out.trans (b5.mono B4.out.size))
  clear b5
  cases b with
  | false =>
    go_wp2
    go_ret
    exact ⟨rfl, B5.out⟩
  | true =>
    go_wp2
    go_ret
    exact ⟨rfl, B5.out⟩
end Go.Proofs.Ytcliiefedmiokaa
/-
  DistanceOf of the model.
-/
namespace Go.Proofs.Ytcliiefedmiokaa
open Go.RowKit

theorem ok_quiet (v : Value) (m : List (List Int)) (w : World) (n : Nat) (b : Bool) (hin : InMat w v m) (hb : okB m = b) :
    Calls Try.prog 52 #[v] (w.drewN n) fun e w'' => e = .returned (.bool b) ∧ ∃ k, w'' = w.drewN k := by
  refine Calls.quiet_of_same ((specImageOk_any v m (w.drewN n) hin).mono ?_)
  rintro e w' ⟨rfl, rfl⟩
  exact ⟨by rw [hb], rfl⟩

set_option maxHeartbeats 1000000 in
theorem specDistanceOf_no (v u : Value) (m l : List (List Int)) (w : World) (hin : InMat w v m) (hin2 : InMat w u l) (h : (okB m && okB l) = false) :
    Calls Try.prog 63 #[v, u] w fun e w' => e = .returned (.int .i64 (-1)) ∧ Below w.heap.size w w' := by
  have HI := hide hin; have HJ := hide hin2
  clear hin hin2
  cases h1 : okB m with
  | false =>
    have H1 := hide h1
    clear h h1
    go_enter Try.func63, Try.ntmps63
    go_wp2
    go_quiet ((go_at_call 52; exact ok_quiet _ m _ _ false HI.out H1.out))
    go_wp2
    go_ret
    exact ⟨rfl, below_draws (Below.refl _ _) _⟩
  | true =>
    have h2 : okB l = false := by rw [h1] at h; simpa using h
    have H1 := hide h1; have H2 := hide h2
    clear h h1 h2
    go_enter Try.func63, Try.ntmps63
    go_wp2
    go_quiet ((go_at_call 52; (first | with_reducible exact ok_quiet v m _ _ true HI.out H1.out | with_reducible exact ok_quiet u l _ _ false HJ.out H2.out)))
    go_wp2
    go_ret
    exact ⟨rfl, below_draws (Below.refl _ _) _⟩

set_option maxHeartbeats 1000000 in
theorem specDistanceOf_rows (v u : Value) (R C R' C' : Nat) (f g : Nat → Nat → Int) (w : World) (hin : InMat w v (mkM R C f)) (hin2 : InMat w u (mkM R' C' g)) (hI : Img R C f) (hI' : Img R' C' g) (hne : R ≠ R') :
    Calls Try.prog 63 #[v, u] w fun e w' => e = .returned (.int .i64 (-1)) ∧ Below w.heap.size w w' := by
  have HI := hide hin; have HJ := hide hin2; have H1 := hide (img_ok hI); have H2 := hide (img_ok hI')
  have hR1 := hI.r1; have hC1 := hI.c1; have hR := hI.r2; have hC := hI.c2
  have hR1' := hI'.r1; have hC1' := hI'.c1; have hR' := hI'.r2; have hC' := hI'.c2
  obtain ⟨ga, oa, ca, rfl, hga, -⟩ := inMat_img hin (by omega) (by omega)
  obtain ⟨gb, ob, cb, rfl, hgb, -⟩ := inMat_img hin2 (by omega) (by omega)
  have q1 : ((R : Int) == (R' : Int)) = false := by simp; omega
  have q2 : ((R : Int) != (R' : Int)) = true := by simp; omega
  clear hin hin2 hI hI' hne
  go_enter Try.func63, Try.ntmps63
  go_wp2
  go_quiet ((go_at_call 52; (first | with_reducible exact ok_quiet (.slice (some ⟨ga, oa, none⟩) R ca) _ _ _ true HI.out H1.out | with_reducible exact ok_quiet (.slice (some ⟨gb, ob, none⟩) R' cb) _ _ _ true HJ.out H2.out)))
  go_wp2
  go_ret
  exact ⟨rfl, below_draws (Below.refl _ _) _⟩
set_option maxHeartbeats 1000000 in
theorem specDistanceOf_cols (v u : Value) (R C C' : Nat) (f g : Nat → Nat → Int) (w : World) (hin : InMat w v (mkM R C f)) (hin2 : InMat w u (mkM R C' g)) (hI : Img R C f) (hI' : Img R C' g) (hne : C ≠ C') :
    Calls Try.prog 63 #[v, u] w fun e w' => e = .returned (.int .i64 (-1)) ∧ Below w.heap.size w w' := by
  have HI := hide hin; have HJ := hide hin2; have H1 := hide (img_ok hI); have H2 := hide (img_ok hI')
  have hR1 := hI.r1; have hC1 := hI.c1; have hR := hI.r2; have hC := hI.c2
  have hC1' := hI'.c1; have hC' := hI'.c2
  obtain ⟨ga, oa, ca, rfl, hga, hca⟩ := inMat_img hin (by omega) (by omega)
  obtain ⟨gb, ob, cb, rfl, hgb, hcb⟩ := inMat_img hin2 (by omega) (by omega)
  obtain ⟨g0, o0, c0, hx0, -⟩ := hca 0 (by omega)
  obtain ⟨g1, o1, c1, hx1, -⟩ := hcb 0 (by omega)
  rw [Nat.add_zero] at hx0 hx1
  have q1 : ((C : Int) == (C' : Int)) = false := by simp; omega
  have q2 : ((C : Int) != (C' : Int)) = true := by simp; omega
  clear hin hin2 hI hI' hne hca hcb
  go_enter Try.func63, Try.ntmps63
  go_wp2
  go_quiet ((go_at_call 52; (first | with_reducible exact ok_quiet (.slice (some ⟨ga, oa, none⟩) R ca) _ _ _ true HI.out H1.out | with_reducible exact ok_quiet (.slice (some ⟨gb, ob, none⟩) R cb) _ _ _ true HJ.out H2.out)))
  go_wp2
  go_ret
  exact ⟨rfl, below_draws (Below.refl _ _) _⟩
set_option maxRecDepth 100000 in
set_option maxHeartbeats 1000000 in
theorem specDistanceOf_same (v u : Value) (R C : Nat) (f g : Nat → Nat → Int) (w : World) (hin : InMat w v (mkM R C f)) (hin2 : InMat w u (mkM R C g)) (hI : Img R C f) (hI' : Img R C g) :
    Calls Try.prog 63 #[v, u] w fun e w' => e = .returned (.int .i64 (cnt (fun i => imgF R C f i != imgF R C g i) 25 : Nat)) ∧ Below w.heap.size w w' := by
  have HI := hide hin; have HJ := hide hin2; have H1 := hide (img_ok hI); have H2 := hide (img_ok hI')
  have hR1 := hI.r1; have hC1 := hI.c1; have hR := hI.r2; have hC := hI.c2
  obtain ⟨ga, oa, ca, rfl, hga, hca⟩ := inMat_img hin (by omega) (by omega)
  obtain ⟨gb, ob, cb, rfl, hgb, hcb⟩ := inMat_img hin2 (by omega) (by omega)
  obtain ⟨g0, o0, c0, hx0, -⟩ := hca 0 (by omega)
  obtain ⟨g1, o1, c1, hx1, -⟩ := hcb 0 (by omega)
  rw [Nat.add_zero] at hx0 hx1
  have HA := hide hca; have HB := hide hcb
  obtain ⟨p, hp⟩ : ∃ p : Nat → Bool, p = fun i => imgF R C f i != imgF R C g i := ⟨_, rfl⟩
  have HP : Hid (∀ i, p i = (imgF R C f i != imgF R C g i)) := hide fun i => by rw [hp]
  have HN : Hid (∀ i, imgF R C f i = -1 → p i = false) := hide fun i e => by
    have e2 : imgF R C g i = -1 := (imgF_none hI' i).2 ((imgF_none hI i).1 e)
    rw [HP.out, e, e2]; rfl
  rw [← hp]
  clear hin hin2 hI hI' hca hcb hp
  go_enter Try.func63, Try.ntmps63
  go_wp2
  go_quiet ((go_at_call 52; (first | with_reducible exact ok_quiet (.slice (some ⟨ga, oa, none⟩) R ca) _ _ _ true HI.out H1.out | with_reducible exact ok_quiet (.slice (some ⟨gb, ob, none⟩) R cb) _ _ _ true HJ.out H2.out)))
  clear hx0 hx1
  go_wp2
  go_loopw [5, 38] (fun n i w' => ∃ y : Nat, y ≤ R ∧ i = .int .i64 y ∧ n = .int .i64 (cnt p (5 * y)) ∧ Below w.heap.size w w') (fun _ i _ => R - (intOf i).toNat)
  case atStart => exact ⟨0, by omega, rfl, rfl, below_draws (Below.refl _ _) _⟩
  case round =>
    obtain ⟨y, hy, rfl, rfl, hb⟩ := hrel
    have HBB := hide hb
    clear hb
    by_cases hlt : y < R
    · have hyI : (y : Int) < R := by omega
      obtain ⟨g', o', c', hx, hg', hcc⟩ := HA.out y hlt
      have hx := below_cell HBB.out hga hx
      have HCC := hide hcc
      clear hcc
      obtain ⟨wo, rfl⟩ : ∃ wo : World, wo = wr := ⟨_, rfl⟩
      go_wp2
      go_loopw [5, 45] (fun n i w' => ∃ x : Nat, x ≤ C ∧ i = .int .i64 x ∧ n = .int .i64 (cnt p (5 * y + x)) ∧ Below w.heap.size w w') (fun _ i _ => C - (intOf i).toNat)
      case atStart => exact ⟨0, by omega, rfl, rfl, HBB.out⟩
      case round =>
        clear HBB hx
        obtain ⟨x, hxx, rfl, rfl, hb⟩ := hrel
        have HBB := hide hb
        clear hb
        have hle := cnt_le p (5 * y + x)
        by_cases hlx : x < C
        · have hxI : (x : Int) < C := by omega
          have hz := below_cell HBB.out hg' (HCC.out x hlx)
          obtain ⟨g2, o2, c2, hx2, hg2, hc2⟩ := HB.out y hlt
          have hx2 := below_cell HBB.out hgb hx2
          have hz2 := below_cell HBB.out hg2 (hc2 x hlx)
          have HV : Hid (p (5 * y + x) = (f y x != g y x)) := hide (by rw [HP.out, imgF_at _ _ _ _ _ (by omega), imgF_at _ _ _ _ _ (by omega), if_pos ⟨hlt, hlx⟩, if_pos ⟨hlt, hlx⟩])
          clear hc2
          obtain ⟨s, hs⟩ : ∃ s, s = f y x := ⟨_, rfl⟩
          obtain ⟨t, ht⟩ : ∃ t, t = g y x := ⟨_, rfl⟩
          rw [← hs, ← ht] at HV
          rw [← hs] at hz
          rw [← ht] at hz2
          clear hs ht
          by_cases e : s = t
          · subst e
            have HS := hide (cnt_no (p := p) (k := 5 * y + x) (by rw [HV.out]; simp))
            go_wp2
            go_roundw
            case rel => exact ⟨x + 1, by omega, by go_num, by rw [← Nat.add_assoc, HS.out], HBB.out⟩
            case measure => simp [intOf]; omega
          · have hne2 : (s != t) = true := by simpa using e
            have hne1 : (s == t) = false := by simpa using e
            have HS := hide (cnt_yes (p := p) (k := 5 * y + x) (by rw [HV.out]; exact hne2))
            clear e
            go_wp2
            go_roundw
            case rel => exact ⟨x + 1, by omega, by go_num, by rw [← Nat.add_assoc, HS.out]; go_num, HBB.out⟩
            case measure => simp [intOf]; omega
        · obtain rfl : x = C := by omega
          have HS := hide (cnt_row p HN.out y hC)
          go_wp2
          go_roundw
          case rel => exact ⟨y + 1, by omega, by go_num, by rw [HS.out], HBB.out⟩
          case measure => simp [intOf]; omega
    · obtain rfl : y = R := by omega
      have HS := hide (cnt_end p HN.out hR)
      go_wp2
      go_ret
      exact ⟨ret_int (by rw [HS.out]), HBB.out⟩
theorem specDistanceOf_yes (v u : Value) (R C R' C' : Nat) (f g : Nat → Nat → Int) (w : World) (hin : InMat w v (mkM R C f)) (hin2 : InMat w u (mkM R' C' g)) (h : Img R C f) (h' : Img R' C' g) :
    Calls Try.prog 63 #[v, u] w fun e w' => e = .returned (.int .i64 (if R = R' ∧ C = C' then (cnt (fun i => imgF R C f i != imgF R' C' g i) 25 : Nat) else -1)) ∧ Below w.heap.size w w' := by
  by_cases hR : R = R'
  · subst hR
    by_cases hC : C = C'
    · subst hC
      rw [if_pos ⟨rfl, rfl⟩]
      exact specDistanceOf_same v u R C f g w hin hin2 h h'
    · rw [if_neg fun e => hC e.2]
      exact specDistanceOf_cols v u R C C' f g w hin hin2 h h' hC
  · rw [if_neg fun e => hR e.1]
    exact specDistanceOf_rows v u R C R' C' f g w hin hin2 h h' hR
end Go.Proofs.Ytcliiefedmiokaa
/-
  SameSums of both.
-/
namespace Go.Proofs.Ytcliiefedmiokaa
open Go.RowKit Go.Maps

/-- The rows' and the columns' directions. -/
def rc : List (Int × Int) := [(1, 0), (0, 1)]
theorem lines_row (R C : Nat) (f : Nat → Nat → Int) (n : Int) : linesC C f (R * C) ⟨1, 0, n⟩ rc = if 0 ≤ n ∧ n < R then ((rs C f n.toNat : Nat) : Int) else 0 := by
  have h : lineC C f (1, 0) (R * C) ⟨1, 0, n⟩ = (cnt (onL C f (1, 0) n) (C * R) : Nat) := by rw [Nat.mul_comm R C]; exact if_pos ⟨rfl, rfl⟩
  have h2 : lineC C f (0, 1) (R * C) ⟨1, 0, n⟩ = 0 := if_neg (fun h => by cases h.1)
  rw [rc, linesC, linesC, linesC, h, h2, cnt_rows]
  split <;> simp
theorem lines_col (R C : Nat) (f : Nat → Nat → Int) (n : Int) : linesC C f (R * C) ⟨0, 1, n⟩ rc = if 0 ≤ n ∧ n < C then ((cs R f (C - 1 - n.toNat) : Nat) : Int) else 0 := by
  have h : lineC C f (0, 1) (R * C) ⟨0, 1, n⟩ = (cnt (onL C f (0, 1) n) (C * R) : Nat) := by rw [Nat.mul_comm R C]; exact if_pos ⟨rfl, rfl⟩
  have h2 : lineC C f (1, 0) (R * C) ⟨0, 1, n⟩ = 0 := if_neg (fun h => by cases h.1)
  rw [rc, linesC, linesC, linesC, h, h2, cnt_cols]
  split <;> simp
theorem lines_none (C : Nat) (f : Nat → Nat → Int) (N : Nat) (k : Key) (h1 : ¬ (k.x = 1 ∧ k.y = 0)) (h2 : ¬ (k.x = 0 ∧ k.y = 1)) : linesC C f N k rc = 0 := by
  simp only [rc, linesC, lineC]
  rw [if_neg h1, if_neg h2]; rfl
theorem rowsL_eq {R C : Nat} {f g : Nat → Nat → Int} : (rowsL R C f == rowsL R C g) = true ↔ ∀ y, y < R → rs C f y = rs C g y := by
  rw [beq_iff_eq]
  constructor
  · intro h y hy
    have h1 := congrArg (fun l => l[y]?) h
    simp only [rowsL, rowF, List.getElem?_map, List.getElem?_range hy, Option.map_some, Option.some.injEq] at h1
    omega
  · intro h
    exact rowF_congr fun y hy => by rw [h y hy]
def sameL (R C : Nat) (f g : Nat → Nat → Int) : Bool := (rowsL R C f == rowsL R C g) && (rowsL C R (trM f) == rowsL C R (trM g))
theorem same_lines {R C : Nat} {f g : Nat → Nat → Int} (hR : R ≤ 5) (hC : C ≤ 5) : (∀ k : Key, k.wf → thereK (fun k => linesC C f (R * C) k rc - linesC C g (R * C) k rc) k = false) ↔ sameL R C f g = true := by
  have hcs : ∀ (f : Nat → Nat → Int) x, rs R (trM f) x = cs R f x := fun _ _ => rfl
  unfold sameL
  rw [Bool.and_eq_true, rowsL_eq, rowsL_eq]
  constructor
  · intro h
    have h0 : ∀ k : Key, k.wf → linesC C f (R * C) k rc = linesC C g (R * C) k rc := fun k hk => by
      have := h k hk
      simp only [thereK, decide_eq_false_iff_not, ne_eq, Decidable.not_not] at this
      omega
    refine ⟨fun y hy => ?_, fun x hx => ?_⟩
    · have := h0 ⟨1, 0, y⟩ (key_wf (by decide) (by decide) (WalkArith.wf_i64 (by omega)))
      rw [lines_row, lines_row, if_pos (by omega), if_pos (by omega)] at this
      have e : ((y : Int)).toNat = y := by omega
      rw [e] at this; omega
    · rw [hcs, hcs]
      have := h0 ⟨0, 1, (C - 1 - x : Nat)⟩ (key_wf (by decide) (by decide) (WalkArith.wf_i64 (by omega)))
      rw [lines_col, lines_col, if_pos (by omega), if_pos (by omega)] at this
      have e : C - 1 - (((C - 1 - x : Nat) : Int)).toNat = x := by omega
      rw [e] at this; omega
  · rintro ⟨h1, h2⟩ k -
    simp only [thereK, decide_eq_false_iff_not, ne_eq, Decidable.not_not]
    obtain ⟨kx, ky, n⟩ := k
    by_cases e1 : kx = 1 ∧ ky = 0
    · obtain ⟨rfl, rfl⟩ := e1
      rw [lines_row, lines_row]
      split
      · rename_i hn; rw [h1 n.toNat (by omega)]; omega
      · rfl
    · by_cases e2 : kx = 0 ∧ ky = 1
      · obtain ⟨rfl, rfl⟩ := e2
        rw [lines_col, lines_col]
        split
        · rename_i hn
          have := h2 (C - 1 - n.toNat) (by omega)
          rw [hcs, hcs] at this
          rw [this]; omega
        · rfl
      · rw [lines_none C f (R * C) _ e1 e2, lines_none C g (R * C) _ e1 e2]; rfl

theorem iok_quiet (v : Value) (m : List (List Int)) (w : World) (n : Nat) (b : Bool) (hin : InMat w v m) (hb : okB m = b) :
    Calls Try.prog 60 #[v] (w.drewN n) fun e w'' => e = .returned (.bool b) ∧ ∃ k, w'' = w.drewN k := by
  refine Calls.quiet_of_same ((implImageOk_any v m (w.drewN n) hin).mono ?_)
  rintro e w' ⟨rfl, rfl⟩
  exact ⟨by rw [hb], rfl⟩
set_option maxRecDepth 100000 in
set_option maxHeartbeats 1000000 in
theorem implSameSums_no (v u : Value) (m l : List (List Int)) (w : World) (hin : InMat w v m) (hin2 : InMat w u l) (h : (okB m && okB l) = false) :
    Calls Try.prog 27 #[v, u] w fun e w' => e = .returned (.bool false) ∧ Below w.heap.size w w' := by
  have HI := hide hin; have HJ := hide hin2
  clear hin hin2
  cases h1 : okB m with
  | false =>
    have H1 := hide h1
    clear h h1
    go_enter Try.func27, Try.ntmps27
    go_wp2
    go_quiet ((go_at_call 60; exact iok_quiet _ m _ _ false HI.out H1.out))
    go_wp2
    go_ret
    exact ⟨rfl, below_draws (Below.refl _ _) _⟩
  | true =>
    have h2 : okB l = false := by rw [h1] at h; simpa using h
    have H1 := hide h1; have H2 := hide h2
    clear h h1 h2
    go_enter Try.func27, Try.ntmps27
    go_wp2
    go_quiet ((go_at_call 60; (first | with_reducible exact iok_quiet v m _ _ true HI.out H1.out | with_reducible exact iok_quiet u l _ _ false HJ.out H2.out)))
    go_wp2
    go_ret
    exact ⟨rfl, below_draws (Below.refl _ _) _⟩
set_option maxRecDepth 100000 in
set_option maxHeartbeats 1000000 in
theorem implSameSums_rows (v u : Value) (R C R' C' : Nat) (f g : Nat → Nat → Int) (w : World) (hin : InMat w v (mkM R C f)) (hin2 : InMat w u (mkM R' C' g)) (hI : Img R C f) (hI' : Img R' C' g) (hne : R ≠ R') :
    Calls Try.prog 27 #[v, u] w fun e w' => e = .returned (.bool false) ∧ Below w.heap.size w w' := by
  have HI := hide hin; have HJ := hide hin2; have H1 := hide (img_ok hI); have H2 := hide (img_ok hI')
  have hR1 := hI.r1; have hC1 := hI.c1; have hR := hI.r2; have hC := hI.c2
  have hR1' := hI'.r1; have hC1' := hI'.c1; have hR' := hI'.r2; have hC' := hI'.c2
  obtain ⟨ga, oa, ca, rfl, hga, -⟩ := inMat_img hin (by omega) (by omega)
  obtain ⟨gb, ob, cb, rfl, hgb, -⟩ := inMat_img hin2 (by omega) (by omega)
  have q1 : ((R : Int) == (R' : Int)) = false := by simp; omega
  have q2 : ((R : Int) != (R' : Int)) = true := by simp; omega
  clear hin hin2 hI hI' hne
  go_enter Try.func27, Try.ntmps27
  go_wp2
  go_quiet ((go_at_call 60; (first | with_reducible exact iok_quiet (.slice (some ⟨ga, oa, none⟩) R ca) _ _ _ true HI.out H1.out | with_reducible exact iok_quiet (.slice (some ⟨gb, ob, none⟩) R' cb) _ _ _ true HJ.out H2.out)))
  go_wp2
  go_ret
  exact ⟨rfl, below_draws (Below.refl _ _) _⟩
set_option maxRecDepth 100000 in
set_option maxHeartbeats 1000000 in
theorem implSameSums_cols (v u : Value) (R C C' : Nat) (f g : Nat → Nat → Int) (w : World) (hin : InMat w v (mkM R C f)) (hin2 : InMat w u (mkM R C' g)) (hI : Img R C f) (hI' : Img R C' g) (hne : C ≠ C') :
    Calls Try.prog 27 #[v, u] w fun e w' => e = .returned (.bool false) ∧ Below w.heap.size w w' := by
  have HI := hide hin; have HJ := hide hin2; have H1 := hide (img_ok hI); have H2 := hide (img_ok hI')
  have hR1 := hI.r1; have hC1 := hI.c1; have hR := hI.r2; have hC := hI.c2
  have hR1' := hI'.r1; have hC1' := hI'.c1; have hR' := hI'.r2; have hC' := hI'.c2
  obtain ⟨ga, oa, ca, rfl, hga, ha⟩ := inMat_img hin (by omega) (by omega)
  obtain ⟨gb, ob, cb, rfl, hgb, hb⟩ := inMat_img hin2 (by omega) (by omega)
  obtain ⟨ga', oa', ca', hxa, -, -⟩ := ha 0 (by omega)
  obtain ⟨gb', ob', cb', hxb, -, -⟩ := hb 0 (by omega)
  rw [Nat.add_zero] at hxa hxb
  have q1 : ((C : Int) == (C' : Int)) = false := by simp; omega
  have q2 : ((C : Int) != (C' : Int)) = true := by simp; omega
  have q3 : ((R : Int) != (R : Int)) = false := by simp
  have hR0 : 0 < R := by omega
  clear hin hin2 hI hI' hne ha hb
  go_enter Try.func27, Try.ntmps27
  go_wp2
  go_quiet ((go_at_call 60; (first | with_reducible exact iok_quiet (.slice (some ⟨ga, oa, none⟩) R ca) _ _ _ true HI.out H1.out | with_reducible exact iok_quiet (.slice (some ⟨gb, ob, none⟩) R cb) _ _ _ true HJ.out H2.out)))
  go_wp2
  go_ret
  exact ⟨rfl, below_draws (Below.refl _ _) _⟩
set_option maxRecDepth 100000 in
set_option maxHeartbeats 2000000 in
theorem implSameSums_same (v u : Value) (R C : Nat) (f g : Nat → Nat → Int) (w : World) (hin : InMat w v (mkM R C f)) (hin2 : InMat w u (mkM R C g)) (hI : Img R C f) (hI' : Img R C g) :
    Calls Try.prog 27 #[v, u] w fun e w' => e = .returned (.bool (sameL R C f g)) ∧ Below w.heap.size w w' := by
  have HI := hide hin; have HJ := hide hin2; have H1 := hide (img_ok hI); have H2 := hide (img_ok hI')
  have HA := hide hI; have HB := hide hI'
  have hR1 := hI.r1; have hC1 := hI.c1; have hR := hI.r2; have hC := hI.c2
  obtain ⟨ga, oa, ca, rfl, hga, ha⟩ := inMat_img hin (by omega) (by omega)
  obtain ⟨gb, ob, cb, rfl, hgb, hb⟩ := inMat_img hin2 (by omega) (by omega)
  obtain ⟨ga', oa', ca', hxa, -, -⟩ := ha 0 (by omega)
  obtain ⟨gb', ob', cb', hxb, -, -⟩ := hb 0 (by omega)
  rw [Nat.add_zero] at hxa hxb
  have q2 : ((C : Int) != (C : Int)) = false := by simp
  have q3 : ((R : Int) != (R : Int)) = false := by simp
  have hR0 : 0 < R := by omega
  have HSL := hide (same_lines (f := f) (g := g) hR hC)
  have HND : Hid (∀ d ∈ rc, Near d.1 d.2) := hide (by
    intro d hd
    simp only [rc, List.mem_cons, List.not_mem_nil, or_false] at hd
    rcases hd with rfl | rfl <;> exact ⟨by decide, by decide, by decide, by decide⟩)
  have HRG : Hid (∀ (h : Nat → Nat → Int) (k : Key), 0 ≤ linesC C h (R * C) k rc ∧ linesC C h (R * C) k rc ≤ 1000) := hide fun h k => by
    have h1 := linesC_range C h (R * C) k rc
    have h2 : ((R * C : Nat) : Int) * (rc.length : Int) ≤ 50 := by
      have : R * C * rc.length ≤ 25 * 2 := Nat.mul_le_mul (Nat.mul_le_mul hR hC) (by decide)
      exact_mod_cast this
    omega
  clear hin hin2 hI hI' ha hb
  go_enter Try.func27, Try.ntmps27
  go_wp2
  go_quiet ((go_at_call 60; (first | with_reducible exact iok_quiet (.slice (some ⟨ga, oa, none⟩) R ca) _ _ _ true HI.out H1.out | with_reducible exact iok_quiet (.slice (some ⟨gb, ob, none⟩) R cb) _ _ _ true HJ.out H2.out)))
  go_wp2_with fail
  refine (alongRows_any _).mono ?_
  rintro e w1 ⟨rfl, hb⟩
  have HB1 := hide ((below_draws (Below.refl w.heap.size w) nq).trans hb); clear hb
  go_wp2_with fail
  refine (alongCols_any _).mono ?_
  rintro e w2 ⟨rfl, hb⟩
  have HB2 := hide (HB1.out.trans (hb.mono HB1.out.size)); clear hb
  have HB3 := hide (HB2.out.alloc HB2.out.size (.cells #[.int .i64 1, .int .i64 0, .int .i64 0, .int .i64 1] 34))
  go_wp2_with fail
  refine (lineMapOf_any _ _ R C f rc _ (inMat_below HI.out HB3.out) HA.out (inDirs2 w2 1 0 0 1) (by decide) HND.out).mono ?_
  rintro e w4 ⟨b1, rfl, hg1, hl, hb⟩
  have hbw1 := lm_lt hl
  have HL4 := hide hl; have HB4 := hide (HB3.out.trans (hb.mono HB3.out.size)); have hbW : w.heap.size ≤ b1 := Nat.le_trans HB3.out.size hg1
  clear hl hb hg1
  go_wp2_with fail
  refine (alongRows_any _).mono ?_
  rintro e w5 ⟨rfl, hb⟩
  have HL5 := hide (lm_below HL4.out hb); have hs5 := hb.size; have HB5 := hide (HB4.out.trans (hb.mono HB4.out.size)); clear hb
  go_wp2_with fail
  refine (alongCols_any _).mono ?_
  rintro e w6 ⟨rfl, hb⟩
  have HL6 := hide (lm_below HL5.out hb); have hs6 := hb.size; have HB6 := hide (HB5.out.trans (hb.mono HB5.out.size)); clear hb
  have hal : Below w6.heap.size w6 (w6.alloc (.cells #[.int .i64 1, .int .i64 0, .int .i64 0, .int .i64 1] 34)) := (Below.refl _ _).alloc (Nat.le_refl _) _
  have HL7 := hide (lm_below HL6.out hal); have HB7 := hide (HB6.out.trans (hal.mono HB6.out.size)); have hs7 := hal.size
  clear hal
  go_wp2_with fail
  refine (lineMapOf_any _ _ R C g rc _ (inMat_below HJ.out HB7.out) HB.out (inDirs2 w6 1 0 0 1) (by decide) HND.out).mono ?_
  rintro e w8 ⟨b2, rfl, hg2, hl, hb⟩
  have hne : b1 ≠ b2 := by omega
  have HL8 := hide (lm_below HL7.out hb); have HM8 := hide hl; have HB8 := hide (HB7.out.trans (hb.mono HB7.out.size))
  clear hl hb hg2 hs5 hs6 hs7
  go_wp2_with fail
  refine (cancel_any b1 b2 50 50 _ _ _ _ HL8.out HM8.out hne (by decide) (by decide) (HRG.out f) (HRG.out g)).mono ?_
  rintro e w9 ⟨nn, rfl, hnn, hl, hgr⟩
  have HL9 := hide hl
  have HB9 := hide (HB8.out.trans (grown_below hgr (fun k hk => by cases hk; exact hbW) HB8.out.size))
  clear hl hgr
  go_wp2_with (at_len; refine wpList_lenLM _ rfl _ rfl rfl HL9.out ?_; intro s hs hiff; have HIF := hide (hiff.trans HSL.out); clear hiff)
  go_ret
  refine ⟨ret_bool ?_, HB9.out⟩
  cases e : sameL R C f g with
  | true => have := HIF.out.2 e; simp [this]
  | false =>
    have : s ≠ 0 := fun h => by have := HIF.out.1 h; rw [e] at this; cases this
    simp [this]
theorem implSameSums_any (v u : Value) (R C R' C' : Nat) (f g : Nat → Nat → Int) (w : World) (hin : InMat w v (mkM R C f)) (hin2 : InMat w u (mkM R' C' g)) (h : Img R C f) (h' : Img R' C' g) :
    Calls Try.prog 27 #[v, u] w fun e w' => e = .returned (.bool (if R = R' ∧ C = C' then sameL R C f g else false)) ∧ Below w.heap.size w w' := by
  by_cases hR : R = R'
  · subst hR
    by_cases hC : C = C'
    · subst hC
      rw [if_pos ⟨rfl, rfl⟩]
      exact implSameSums_same v u R C f g w hin hin2 h h'
    · rw [if_neg fun e => hC e.2]
      exact implSameSums_cols v u R C C' f g w hin hin2 h h' hC
  · rw [if_neg fun e => hR e.1]
    exact implSameSums_rows v u R C R' C' f g w hin hin2 h h' hR

set_option maxHeartbeats 400000 in
theorem specSameSums_neg (v u : Value) (w : World) (hd : Calls Try.prog 63 #[v, u] w fun e w' => e = .returned (.int .i64 (-1)) ∧ Below w.heap.size w w') :
    Calls Try.prog 26 #[v, u] w fun e w' => e = .returned (.bool false) ∧ Below w.heap.size w w' := by
  have HD := hide hd
  clear hd
  go_enter Try.func26, Try.ntmps26
  go_wp2_with fail
  refine HD.out.mono ?_
  rintro e w1 ⟨rfl, hb⟩
  have HB := hide hb
  clear hb
  go_wp2
  go_ret
  exact ⟨rfl, HB.out⟩
set_option maxHeartbeats 1000000 in
theorem specSameSums_same (v u : Value) (R C : Nat) (f g : Nat → Nat → Int) (w : World) (hin : InMat w v (mkM R C f)) (hin2 : InMat w u (mkM R C g)) (hI : Img R C f) (hI' : Img R C g) :
    Calls Try.prog 26 #[v, u] w fun e w' => e = .returned (.bool (sameL R C f g)) ∧ Below w.heap.size w w' := by
  have HI := hide hin; have HJ := hide hin2; have HA := hide hI; have HB := hide hI'
  have HD := hide (specDistanceOf_same v u R C f g w hin hin2 hI hI')
  have HS : Hid (sameL R C f g = ((rowsL R C f == rowsL R C g) && (rowsL C R (trM f) == rowsL C R (trM g)))) := hide rfl
  clear hin hin2 hI hI'
  go_enter Try.func26, Try.ntmps26
  go_wp2_with fail
  refine HD.out.mono ?_
  rintro e w1 ⟨rfl, hb⟩
  have HB1 := hide hb; clear hb
  generalize cnt (fun i => imgF R C f i != imgF R C g i) 25 = q
  have hq : 0 ≤ (q : Int) := by omega
  go_wp2_with fail
  refine (specRowSums_yes v R C f _ (inMat_below HI.out HB1.out) HA.out).mono ?_
  rintro e w2 ⟨x2, rfl, ho, hb⟩
  have HX2 := hide (inRow_own ho); have HB2 := hide (HB1.out.trans (hb.mono HB1.out.size)); clear ho hb
  go_wp2_with fail
  refine (specRowSums_yes u R C g _ (inMat_below HJ.out HB2.out) HB.out).mono ?_
  rintro e w3 ⟨x3, rfl, ho, hb⟩
  have HX3 := hide (inRow_own ho); have HY3 := hide (inRow_below HX2.out hb); have HB3 := hide (HB2.out.trans (hb.mono HB2.out.size)); clear ho hb
  go_wp2_with fail
  refine (l02Same_any x2 x3 _ _ _ HY3.out HX3.out).mono ?_
  rintro e w4 ⟨rfl, rfl⟩
  have HB4 := HB3
  cases e1 : (rowsL R C f == rowsL R C g) with
  | false =>
    have HF : Hid (sameL R C f g = false) := hide (by rw [HS.out, e1]; rfl)
    clear e1
    go_wp2
    go_ret
    exact ⟨ret_bool HF.out.symm, HB4.out⟩
  | true =>
    have HF : Hid (sameL R C f g = (rowsL C R (trM f) == rowsL C R (trM g))) := hide (by rw [HS.out, e1]; rfl)
    clear e1
    go_wp2_with fail
    refine (specColSums_yes v R C f _ (inMat_below HI.out HB4.out) HA.out).mono ?_
    rintro e w5 ⟨x5, rfl, ho, hb⟩
    have HX5 := hide (inRow_own ho); have HB5 := hide (HB4.out.trans (hb.mono HB4.out.size)); clear ho hb
    go_wp2_with fail
    refine (specColSums_yes u R C g _ (inMat_below HJ.out HB5.out) HB.out).mono ?_
    rintro e w6 ⟨x6, rfl, ho, hb⟩
    have HX6 := hide (inRow_own ho); have HY6 := hide (inRow_below HX5.out hb); have HB6 := hide (HB5.out.trans (hb.mono HB5.out.size)); clear ho hb
    go_wp2_with fail
    refine (l02Same_any x5 x6 _ _ _ HY6.out HX6.out).mono ?_
    rintro e w7 ⟨rfl, rfl⟩
    go_wp2
    go_ret
    exact ⟨ret_bool HF.out.symm, HB6.out⟩
theorem specSameSums_any (v u : Value) (R C R' C' : Nat) (f g : Nat → Nat → Int) (w : World) (hin : InMat w v (mkM R C f)) (hin2 : InMat w u (mkM R' C' g)) (h : Img R C f) (h' : Img R' C' g) :
    Calls Try.prog 26 #[v, u] w fun e w' => e = .returned (.bool (if R = R' ∧ C = C' then sameL R C f g else false)) ∧ Below w.heap.size w w' := by
  by_cases hR : R = R'
  · subst hR
    by_cases hC : C = C'
    · subst hC
      rw [if_pos ⟨rfl, rfl⟩]
      exact specSameSums_same v u R C f g w hin hin2 h h'
    · rw [if_neg fun e => hC e.2]
      exact specSameSums_neg v u w (specDistanceOf_cols v u R C C' f g w hin hin2 h h' hC)
  · rw [if_neg fun e => hR e.1]
    exact specSameSums_neg v u w (specDistanceOf_rows v u R C R' C' f g w hin hin2 h h' hR)
end Go.Proofs.Ytcliiefedmiokaa
