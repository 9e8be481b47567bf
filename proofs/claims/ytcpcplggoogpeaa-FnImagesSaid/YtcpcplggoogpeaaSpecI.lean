/-
  The model's functions on images.
-/
import Derived.Test.YtcpcplggoogpeaaImpl
namespace Go.Proofs.Ytcpcplggoogpeaa
open Go.RowKit

set_option maxHeartbeats 1000000 in
theorem l02Empty_any (R C : Nat) (w : World) (hR : R ≤ 5) (hC : C ≤ 5) :
    Calls Try.prog 44 #[.int .i64 R, .int .i64 C] w (MatRes (mkM R C zeroM) w) := by
  have HZ : Hid (ints (rowF C (zeroM 0)) = List.replicate C (.int .i64 0)) := hide (by
    apply List.ext_getElem
    · simp [ints, rowF]
    · intro i h1 h2; simp [ints, rowF, zeroM])
  go_enter Try.func44, Try.ntmps44
  go_wp2
  go_loopw [5, 6] (fun o i w' => ∃ (y : Nat) (v : Value), y ≤ R ∧ i = .int .i64 y ∧ v = o ∧ OwnMat w' w.heap.size w'.heap.size v (mkM y C zeroM) ∧ Below w.heap.size w w') (fun _ i _ => R - (intOf i).toNat)
  case atStart => exact ⟨0, _, by omega, rfl, rfl, ⟨[], World.ownsRow_made (base := w.heap.size) w #[] 0 (Nat.le_refl _) (Nat.zero_le _) rfl, (fun k e => by simp [Value.ownBlock] at e; subst e; simp), (fun i h => absurd h (Nat.not_lt_zero _)), fun i j _ h => absurd h (Nat.not_lt_zero _)⟩, (Below.refl _ _).alloc (Nat.le_refl _) _⟩
  case round =>
    obtain ⟨y, v, hy, rfl, rfl, hown, hb⟩ := hrel
    have HO := hide hown; have HB := hide hb
    clear hown hb
    by_cases hlt : y < R
    · have hyI : (y : Int) < R := by omega
      have hsz := HB.out.size
      go_wp2_with (first | (at_make; refine wpList_new wr.heap.size C (.int .i64 0) rfl _ _ rfl Try.underlying26 Try.infoInt rfl (by decide) rfl rfl (by omega) (Nat.le_refl _) ?_; intro w1 hown1 hb1 hg1; have O1 := hide (ownMat_below HO.out hb1); have HU : Hid (w1.ownsRow wr.heap.size 3 1 (.slice (some ⟨wr.heap.size, 0, none⟩) C C) (rowF C (zeroM y)).length (ints (rowF C (zeroM y)))) := hide (by rw [rowF_len, show ints (rowF C (zeroM y)) = List.replicate C (.int .i64 0) from HZ.out]; exact hown1); have HB1 := hide (HB.out.trans (hb1.mono hsz)); have hs1 := hb1.size; clear hown1 hb1 hg1; obtain ⟨vs, hv, hvh, hvr, hva⟩ := O1.out; have hvl := mkM_len y C zeroM; rw [hvl] at hv; have HV := hide hv; have HVR := hide hvr; have HVA := hide hva; clear hv hvh hvr hva hvl) | (at_builtin; refine wpList_push HV.out (.slice (some ⟨wr.heap.size, 0, none⟩) C C) (.slice none 0 0) rfl _ _ rfl Try.underlying23 Try.infoInts rfl (by decide) rfl rfl rfl (by omega) (by omega) ?_; intro v' w6 hown1 hb1 hg1))
      go_roundw
      case rel =>
        have hs6 := hb1.size
        have hp := ownMat_push (r := rowF C (zeroM y)) (hi' := w6.heap.size) HVR.out HVA.out (by rw [mkM_len]; exact HV.out) (by rw [rowF_len]; have := HU.out; rw [rowF_len] at this; exact this) hsz (by omega) (by omega) hg1 (by rw [mkM_len]; exact hown1) (fun k e => (hown1.lt k e).2)
        rw [← mkM_succ] at hp
        exact ⟨y + 1, _, by omega, by go_num, rfl, hp, HB1.out.trans (hb1.mono (by omega))⟩
      case measure => simp [intOf]; omega
    · obtain rfl : y = R := by omega
      go_wp2
      go_ret
      exact ⟨_, rfl, HO.out, HB.out⟩

set_option maxHeartbeats 400000 in
theorem specEmptyImage_no (r c : Int) (w : World) (h : ¬ ((1 ≤ r ∧ r ≤ 5) ∧ (1 ≤ c ∧ c ≤ 5))) :
    Calls Try.prog 29 #[.int .i64 r, .int .i64 c] w (MatRes [] w) := by
  by_cases h1 : 1 ≤ r ∧ r ≤ 5
  · have H1 := hide (decide_eq_true h1)
    have H2 := hide (decide_eq_false fun h2 => h ⟨h1, h2⟩)
    clear h h1
    go_enter Try.func29, Try.ntmps29
    go_wp2_with (first | (with_reducible refine (l01In_any r 1 5 _).mono ?_; rw [H1.out]; rintro e w' ⟨rfl, rfl⟩) | (with_reducible refine (l01In_any c 1 5 _).mono ?_; rw [H2.out]; rintro e w' ⟨rfl, rfl⟩))
    go_ret
    exact matRes_nil (Below.refl _ _)
  · have H1 := hide (decide_eq_false h1)
    clear h h1
    go_enter Try.func29, Try.ntmps29
    go_wp2_with (with_reducible refine (l01In_any r 1 5 _).mono ?_; rw [H1.out]; rintro e w' ⟨rfl, rfl⟩)
    go_ret
    exact matRes_nil (Below.refl _ _)
set_option maxHeartbeats 400000 in
theorem specEmptyImage_yes (R C : Nat) (w : World) (hR : 1 ≤ R ∧ R ≤ 5) (hC : 1 ≤ C ∧ C ≤ 5) :
    Calls Try.prog 29 #[.int .i64 R, .int .i64 C] w (MatRes (mkM R C zeroM) w) := by
  have H1 := hide (decide_eq_true (show (1 : Int) ≤ R ∧ (R : Int) ≤ 5 by omega))
  have H2 := hide (decide_eq_true (show (1 : Int) ≤ C ∧ (C : Int) ≤ 5 by omega))
  have hR5 := hR.2; have hC5 := hC.2
  clear hR hC
  go_enter Try.func29, Try.ntmps29
  go_wp2_with (first | (with_reducible refine (l01In_any (R : Int) 1 5 _).mono ?_; rw [H1.out]; rintro e w' ⟨rfl, rfl⟩) | (with_reducible refine (l01In_any (C : Int) 1 5 _).mono ?_; rw [H2.out]; rintro e w' ⟨rfl, rfl⟩))
  refine (l02Empty_any R C _ hR5 hC5).mono ?_
  rintro e w3 ⟨v3, rfl, o3, b3⟩
  have B3 := hide b3; have O3 := hide o3
  clear b3 o3
  go_wp2
  go_ret
  exact ⟨_, rfl, O3.out, B3.out⟩

def inM (m : List (List Int)) (y x : Int) : Bool := okB m && decide (0 ≤ y ∧ y < m.length) && decide (0 ≤ x ∧ x < widthM m)
set_option maxHeartbeats 400000 in
theorem l02In_no (v : Value) (m : List (List Int)) (y x : Int) (w : World) (hin : InMat w v m) (h : okB m = false) :
    Calls Try.prog 66 #[v, .int .i64 y, .int .i64 x] w fun e w' => e = .returned (.bool false) ∧ w = w' := by
  have HI := hide hin; have H := hide h
  clear hin h
  go_enter Try.func66, Try.ntmps66
  go_wp2_with (with_reducible refine (specImageOk_any v m _ HI.out).mono ?_; rw [H.out]; rintro e w' ⟨rfl, rfl⟩)
  go_ret
  exact ⟨rfl, rfl⟩
set_option maxHeartbeats 400000 in
theorem l02In_img (v : Value) (R C : Nat) (f : Nat → Nat → Int) (y x : Int) (w : World) (hin : InMat w v (mkM R C f)) (hI : Img R C f) (b : Bool) (hb : b = true ↔ (0 ≤ y ∧ y < R ∧ 0 ≤ x ∧ x < C)) :
    Calls Try.prog 66 #[v, .int .i64 y, .int .i64 x] w fun e w' => e = .returned (.bool b) ∧ w = w' := by
  have HI := hide hin; have H := hide (img_ok hI)
  have hR := hI.r2; have hR1 := hI.r1; have hC := hI.c2; have hC1 := hI.c1
  obtain ⟨g, o, c, rfl, hg, hcell⟩ := inMat_img hin (by omega) (by omega)
  obtain ⟨g0, o0, c0, hx0, -⟩ := hcell 0 (by omega)
  rw [Nat.add_zero] at hx0
  have HB := hide hb
  clear hin hI hcell hb
  by_cases h1 : 0 ≤ y ∧ y ≤ (R : Int) - 1
  · have H1 := hide (decide_eq_true h1)
    by_cases h2 : 0 ≤ x ∧ x ≤ (C : Int) - 1
    · have H2 := hide (decide_eq_true h2)
      have HT : Hid (b = true) := hide (HB.out.2 (by omega))
      clear h1 h2
      go_enter Try.func66, Try.ntmps66
      go_wp2_with (first | (with_reducible refine (specImageOk_any _ _ _ HI.out).mono ?_; rw [H.out]; rintro e w' ⟨rfl, rfl⟩) | (with_reducible refine (l01In_any y 0 ((R : Int) - 1) _).mono ?_; rw [H1.out]; rintro e w' ⟨rfl, rfl⟩) | (with_reducible refine (l01In_any x 0 ((C : Int) - 1) _).mono ?_; rw [H2.out]; rintro e w' ⟨rfl, rfl⟩))
      go_ret
      exact ⟨ret_bool HT.out.symm, rfl⟩
    · have H2 := hide (decide_eq_false h2)
      have HT : Hid (b = false) := hide (by rw [Bool.eq_false_iff]; intro e; have := HB.out.1 e; omega)
      clear h1 h2
      go_enter Try.func66, Try.ntmps66
      go_wp2_with (first | (with_reducible refine (specImageOk_any _ _ _ HI.out).mono ?_; rw [H.out]; rintro e w' ⟨rfl, rfl⟩) | (with_reducible refine (l01In_any y 0 ((R : Int) - 1) _).mono ?_; rw [H1.out]; rintro e w' ⟨rfl, rfl⟩) | (with_reducible refine (l01In_any x 0 ((C : Int) - 1) _).mono ?_; rw [H2.out]; rintro e w' ⟨rfl, rfl⟩))
      go_ret
      exact ⟨ret_bool HT.out.symm, rfl⟩
  · have H1 := hide (decide_eq_false h1)
    have HT : Hid (b = false) := hide (by rw [Bool.eq_false_iff]; intro e; have := HB.out.1 e; omega)
    clear h1
    go_enter Try.func66, Try.ntmps66
    go_wp2_with (first | (with_reducible refine (specImageOk_any _ _ _ HI.out).mono ?_; rw [H.out]; rintro e w' ⟨rfl, rfl⟩) | (with_reducible refine (l01In_any y 0 ((R : Int) - 1) _).mono ?_; rw [H1.out]; rintro e w' ⟨rfl, rfl⟩))
    go_ret
    exact ⟨ret_bool HT.out.symm, rfl⟩

set_option maxHeartbeats 400000 in
theorem specCellAt_no (v : Value) (m : List (List Int)) (y x : Int) (w : World) (hin : InMat w v m) (h : okB m = false) :
    Calls Try.prog 33 #[v, .int .i64 y, .int .i64 x] w fun e w' => e = .returned (.int .i64 (-1)) ∧ w = w' := by
  have HI := hide hin; have H := hide h
  clear hin h
  go_enter Try.func33, Try.ntmps33
  go_wp2_with (with_reducible refine (l02In_no v m y x _ HI.out H.out).mono ?_; rintro e w' ⟨rfl, rfl⟩)
  go_ret
  exact ⟨rfl, rfl⟩
set_option maxHeartbeats 400000 in
theorem specCellAt_yes (v : Value) (R C : Nat) (f : Nat → Nat → Int) (y x : Int) (w : World) (hin : InMat w v (mkM R C f)) (hI : Img R C f) :
    Calls Try.prog 33 #[v, .int .i64 y, .int .i64 x] w fun e w' => e = .returned (.int .i64 (atM R C f y x)) ∧ w = w' := by
  have HI := hide hin; have H := hide hI
  have hR1 := hI.r1; have hC1 := hI.c1; have hR := hI.r2; have hC := hI.c2
  by_cases h : 0 ≤ y ∧ y < R ∧ 0 ≤ x ∧ x < C
  · obtain ⟨a, rfl⟩ : ∃ a : Nat, y = a := ⟨y.toNat, by omega⟩
    obtain ⟨b, rfl⟩ : ∃ b : Nat, x = b := ⟨x.toNat, by omega⟩
    obtain ⟨g, o, c, rfl, hg, hcell⟩ := inMat_img hin (by omega) (by omega)
    obtain ⟨g', o', c', hx, hg', hcc⟩ := hcell a (by omega)
    have hy := hcc b (by omega)
    have HT := hide (show true = true ↔ _ from ⟨fun _ => h, fun _ => rfl⟩)
    have hab : a < R ∧ b < C := by omega
    have HR : Hid (atM R C f a b = f a b) := hide (by rw [atM, if_pos h]; rfl)
    have haR := hab.1; have hbC := hab.2
    clear hin hI hcell hcc h hab
    rw [HR.out]
    go_enter Try.func33, Try.ntmps33
    go_wp2_with (with_reducible refine (l02In_img _ R C f a b _ HI.out H.out true HT.out).mono ?_; rintro e w' ⟨rfl, rfl⟩)
    go_ret
    exact ⟨rfl, rfl⟩
  · have HR : Hid (atM R C f y x = -1) := hide (by rw [atM, if_neg h])
    have HT := hide (show false = true ↔ _ from ⟨fun e => (by cases e), fun e => absurd e h⟩)
    clear hin hI h
    rw [HR.out]
    go_enter Try.func33, Try.ntmps33
    go_wp2_with (with_reducible refine (l02In_img _ R C f y x _ HI.out H.out false HT.out).mono ?_; rintro e w' ⟨rfl, rfl⟩)
    go_ret
    exact ⟨rfl, rfl⟩

set_option maxHeartbeats 400000 in
theorem specCountBlack_no (v : Value) (m : List (List Int)) (w : World) (hin : InMat w v m) (h : okB m = false) :
    Calls Try.prog 36 #[v] w fun e w' => e = .returned (.int .i64 (-1)) ∧ w = w' := by
  have HI := hide hin; have H := hide h
  clear hin h
  go_enter Try.func36, Try.ntmps36
  go_wp2_with (with_reducible refine (specImageOk_any v m _ HI.out).mono ?_; rw [H.out]; rintro e w' ⟨rfl, rfl⟩)
  go_ret
  exact ⟨rfl, rfl⟩
theorem cnt_row {R C : Nat} {f : Nat → Nat → Int} (p : Nat → Bool) (hp : ∀ i, imgF R C f i = -1 → p i = false) (y : Nat) (hC : C ≤ 5) : cnt p (5 * (y + 1)) = cnt p (5 * y + C) :=
  cnt_skip (by omega) fun i h1 h2 => hp i (by rw [imgF, if_neg (by omega)])
theorem cnt_end {R C : Nat} {f : Nat → Nat → Int} (p : Nat → Bool) (hp : ∀ i, imgF R C f i = -1 → p i = false) (hR : R ≤ 5) : cnt p 25 = cnt p (5 * R) :=
  cnt_skip (by omega) fun i h1 h2 => hp i (by rw [imgF, if_neg (by omega)])
set_option maxHeartbeats 1000000 in
theorem specCountBlack_yes (v : Value) (R C : Nat) (f : Nat → Nat → Int) (w : World) (hin : InMat w v (mkM R C f)) (hI : Img R C f) :
    Calls Try.prog 36 #[v] w fun e w' => e = .returned (.int .i64 (cnt (fun i => imgF R C f i == 1) 25)) ∧ w = w' := by
  have HI := hide hin; have H := hide (img_ok hI); have HX := hide hI
  have hR1 := hI.r1; have hC1 := hI.c1; have hR := hI.r2; have hC := hI.c2
  obtain ⟨g, o, c, rfl, hg, hcell⟩ := inMat_img hin (by omega) (by omega)
  have HC := hide hcell
  obtain ⟨p, hp⟩ : ∃ p : Nat → Bool, p = fun i => imgF R C f i == 1 := ⟨_, rfl⟩
  have HP : Hid (∀ i, p i = (imgF R C f i == 1)) := hide fun i => by rw [hp]
  have HN : Hid (∀ i, imgF R C f i = -1 → p i = false) := hide fun i e => by rw [HP.out, e]; rfl
  rw [← hp]
  clear hin hI hcell hp
  go_enter Try.func36, Try.ntmps36
  go_wp2_with (with_reducible refine (specImageOk_any _ _ _ HI.out).mono ?_; rw [H.out]; rintro e w' ⟨rfl, rfl⟩)
  go_loop [3, 13] (fun n i => ∃ y : Nat, y ≤ R ∧ i = .int .i64 y ∧ n = .int .i64 (cnt p (5 * y))) (fun _ i => R - (intOf i).toNat)
  case atStart => exact ⟨0, by omega, rfl, rfl⟩
  case round =>
    obtain ⟨y, hy, rfl, rfl⟩ := hrel
    by_cases hlt : y < R
    · have hyI : (y : Int) < R := by omega
      obtain ⟨g', o', c', hx, hg', hcc⟩ := HC.out y hlt
      have HCC := hide hcc
      clear hcc
      go_wp2
      go_loop [3, 19] (fun n i => ∃ x : Nat, x ≤ C ∧ i = .int .i64 x ∧ n = .int .i64 (cnt p (5 * y + x))) (fun _ i => C - (intOf i).toNat)
      case atStart => exact ⟨0, by omega, rfl, rfl⟩
      case round =>
        obtain ⟨x, hxx, rfl, rfl⟩ := hrel
        have hle := cnt_le p (5 * y + x)
        by_cases hlx : x < C
        · have hxI : (x : Int) < C := by omega
          have hz := HCC.out x hlx
          have hv : p (5 * y + x) = (f y x == 1) := by rw [HP.out, imgF_at _ _ _ _ _ (by omega), if_pos ⟨hlt, hlx⟩]
          rcases HX.out.cell y x hlt hlx with e | e
          · have HS := hide (cnt_no (p := p) (k := 5 * y + x) (by rw [hv, e]; rfl))
            rw [e] at hz
            clear hv e
            go_wp2
            go_round
            case rel => exact ⟨x + 1, by omega, by go_num, by rw [← Nat.add_assoc, HS.out]⟩
            case measure => simp [intOf]; omega
          · have HS := hide (cnt_yes (p := p) (k := 5 * y + x) (by rw [hv, e]; rfl))
            rw [e] at hz
            clear hv e
            go_wp2
            go_round
            case rel => exact ⟨x + 1, by omega, by go_num, by rw [← Nat.add_assoc, HS.out]; go_num⟩
            case measure => simp [intOf]; omega
        · obtain rfl : x = C := by omega
          have HS := hide (cnt_row p HN.out y hC)
          go_wp2
          go_round
          case rel => exact ⟨y + 1, by omega, by go_num, by rw [HS.out]⟩
          case measure => simp [intOf]; omega
    · obtain rfl : y = R := by omega
      have HS := hide (cnt_end p HN.out hR)
      go_wp2
      go_ret
      exact ⟨ret_int (by rw [HS.out]), rfl⟩
end Go.Proofs.Ytcpcplggoogpeaa
