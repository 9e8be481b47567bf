/-
  The law FnImages, walked.
-/
import Derived.Test.YtcpcplggoogpeaaDraw
import Derived.Test.YtcpcplggoogpeaaCount
import Derived.Test.YtcpcplggoogpeaaAlike
import Derived.Test.YtcpcplggoogpeaaObk
namespace Go.Proofs.Ytcpcplggoogpeaa
open Go.RowKit

theorem count_eq (v : Value) (R C : Nat) (f : Nat → Nat → Int) (w : World) (n : Nat) (hin : InMat w v (mkM R C f)) (hI : Img R C f) (hn : cnt (fun i => imgF R C f i == 1) 25 = n) :
    Calls Try.prog 19 #[v] w fun e w' => e = .returned (.int .i64 n) ∧ Below w.heap.size w w' := by
  subst hn; exact implCountBlack_yes v R C f w hin hI
theorem dist_eq (v u : Value) (R C : Nat) (f g : Nat → Nat → Int) (w : World) (d : Nat) (hin : InMat w v (mkM R C f)) (hin2 : InMat w u (mkM R C g)) (hI : Img R C f) (hI' : Img R C g) (hd : cnt (fun i => imgF R C f i != imgF R C g i) 25 = d) :
    Calls Try.prog 20 #[v, u] w fun e w' => e = .returned (.int .i64 d) ∧ Below w.heap.size w w' := by
  have h := implDistanceOf_yes v u R C R C f g w hin hin2 hI hI'
  rw [if_pos ⟨rfl, rfl⟩, hd] at h; exact h
theorem trans_eq (v : Value) (R C : Nat) (f : Nat → Nat → Int) (w : World) (rows : List (List Int)) (hin : InMat w v (mkM R C f)) (hI : Img R C f) (hr : mkM C R (trM f) = rows) :
    Calls Try.prog 16 #[v] w (MatRes rows w) := by subst hr; exact implTransposeOf_yes v R C f w hin hI
theorem mirror_eq (v : Value) (R C : Nat) (f : Nat → Nat → Int) (w : World) (rows : List (List Int)) (hin : InMat w v (mkM R C f)) (hI : Img R C f) (hr : mkM R C (mirM C f) = rows) :
    Calls Try.prog 17 #[v] w (MatRes rows w) := by subst hr; exact implMirrorOf_yes v R C f w hin hI
theorem invert_eq (v : Value) (R C : Nat) (f : Nat → Nat → Int) (w : World) (rows : List (List Int)) (hin : InMat w v (mkM R C f)) (hI : Img R C f) (hr : mkM R C (invM f) = rows) :
    Calls Try.prog 18 #[v] w (MatRes rows w) := by subst hr; exact implInvertOf_yes v R C f w hin hI
theorem cellAt_eq (v : Value) (R C : Nat) (f : Nat → Nat → Int) (y x : Int) (w : World) (z : Int) (hin : InMat w v (mkM R C f)) (hI : Img R C f) (hz : atM R C f y x = z) :
    Calls Try.prog 23 #[v, .int .i64 y, .int .i64 x] w fun e w' => e = .returned (.int .i64 z) ∧ Below w.heap.size w w' := by
  subst hz; exact implCellAt_yes v R C f y x w hin hI
theorem sameImage_eq (v u : Value) (m l : List (List Int)) (w : World) (s : Bool) (hin : InMat w v m) (hin2 : InMat w u l) (hs : (m == l) = s) :
    Calls Try.prog 22 #[v, u] w fun e w' => e = .returned (.bool s) ∧ Below w.heap.size w w' := by
  subst hs; exact implSameImage_any v u m l w hin hin2

/-- Some lists of lists that read. -/
def Reads (w : World) (l : List (Value × List (List Int))) : Prop := ∀ p ∈ l, InMat w p.1 p.2
theorem reads_below {w w' : World} {l : List (Value × List (List Int))} (h : Reads w l) (hb : Below w.heap.size w w') : Reads w' l := fun p hp => inMat_below (h p hp) hb
theorem reads_cons {w : World} {l : List (Value × List (List Int))} {v : Value} {m : List (List Int)} (h : InMat w v m) (hl : Reads w l) : Reads w ((v, m) :: l) := fun p hp => by
  rcases List.mem_cons.1 hp with rfl | h'
  · exact h
  · exact hl p h'
theorem reads_nil (w : World) : Reads w [] := fun p hp => by cases hp
theorem reads_at {w : World} {l : List (Value × List (List Int))} {v : Value} {m : List (List Int)} (h : Reads w l) (hm : (v, m) ∈ l) : InMat w v m := h _ hm

/-- What stands through the law's last statement: the lists read, and nothing that was there has turned. -/
def Held (w w1 : World) (l : List (Value × List (List Int))) (w' : World) : Prop := Reads w' l ∧ Below w1.heap.size w1 w' ∧ Below w.heap.size w w'
theorem held_step {w w1 wp wn : World} {l : List (Value × List (List Int))} {g a b g9 : Nat} {u v z : Value}
    (h : wp.cell? ⟨g, a, none⟩ = some u ∧ wp.cell? ⟨g, b, none⟩ = some v ∧ wp.cell? ⟨g9, 0, none⟩ = some z ∧ Held w w1 l wp) (hb : Below wp.heap.size wp wn) :
    wn.cell? ⟨g, a, none⟩ = some u ∧ wn.cell? ⟨g, b, none⟩ = some v ∧ wn.cell? ⟨g9, 0, none⟩ = some z ∧ Held w w1 l wn := by
  obtain ⟨h1, h2, h3, h4, h5, h6⟩ := h
  exact ⟨below_cell hb (World.block_lt_of_cell? wp _ h1) h1, below_cell hb (World.block_lt_of_cell? wp _ h2) h2, below_cell hb (World.block_lt_of_cell? wp _ h3) h3, reads_below h4 hb, h5.trans (hb.mono h5.size), h6.trans (hb.mono h6.size)⟩
theorem held_at {w w1 wp : World} {l : List (Value × List (List Int))} {g a b g9 : Nat} {u v z x : Value} {m : List (List Int)}
    (h : wp.cell? ⟨g, a, none⟩ = some u ∧ wp.cell? ⟨g, b, none⟩ = some v ∧ wp.cell? ⟨g9, 0, none⟩ = some z ∧ Held w w1 l wp) (hm : (x, m) ∈ l) : InMat wp x m := h.2.2.2.1 _ hm

/-- The slots that the last statement reads and finds written; those that it writes; what stands through it; what its slots hold. -/
def imgBase (R k d g cv : Nat) (vb vt vm vv : Value) : List (Tmp × Value) := [(3, (.slice (some ⟨g, 0, none⟩) R cv)), (4, vb), (5, vt), (6, vm), (7, vv), (8, (.int .i64 k)), (9, (.int .i64 d))]
def imgDsts : List (Option Tmp) := [some 34, some 35, some 36, some 37, some 38, some 39, some 40, some 41, some 42, some 43, some 44, some 45, some 46, some 47, some 48, some 49, some 50, some 51, some 52, some 53, some 54, some 55, some 56, some 57, some 58, some 59, some 60, some 61, some 62, some 63, some 64, some 65, some 66, some 67, some 68, some 69, some 70, some 71, some 72, some 73, some 74, some 75, some 76, some 77, some 78, some 79, some 80, some 81, some 82, some 83, some 84, some 85, some 86, some 87, some 88, some 89, some 90, some 91, some 92, some 93, some 94, some 95, some 96, some 97, some 98, some 99, some 100, some 101, some 102, some 103, some 104, some 105, some 106, some 107, some 108, some 109, some 110, some 111, some 112, some 113, some 114, some 115, some 116, some 117, some 118, some 119, some 120, some 121, some 122, some 123, some 2]
def imgS (w w1 : World) (R C g cv g0 c0 g9 c9 : Nat) (f h : Nat → Nat → Int) (vb vt vm vv : Value) (z : Int) (w' : World) : Prop :=
  w'.cell? ⟨g, 0, none⟩ = some (.slice (some ⟨g0, 0, none⟩) C c0) ∧ w'.cell? ⟨g, R - 1, none⟩ = some (.slice (some ⟨g9, 0, none⟩) C c9) ∧ w'.cell? ⟨g9, 0, none⟩ = some (.int .i64 z) ∧ Held w w1 [(vv, mkM R C (invM f)), (vm, mkM R C (mirM C f)), (vt, mkM C R (trM f)), (vb, mkM R C h), (.slice (some ⟨g, 0, none⟩) R cv, mkM R C f)] w'
def imgFs (R C k d q P g cv g0 c0 g9 c9 : Nat) (f : Nat → Nat → Int) (vb vt vm vv : Value) (s : Bool) (z : Int) : List Fact :=
  [.val vt, .mat (mkM R C f), .val (.slice (some ⟨g, 0, none⟩) R cv), .val (.bool true), .val (.bool true), .val vm, .mat (mkM R C f), .val (.slice (some ⟨g, 0, none⟩) R cv), .val (.bool true), .val (.bool true), .val (.bool true), .val vv, .mat (mkM R C f), .val (.slice (some ⟨g, 0, none⟩) R cv), .val (.bool true), .val (.bool true), .val (.bool true), .val vt, .val (.int .i64 k), .val (.int .i64 k), .val (.bool true), .val (.bool true), .val (.bool true), .val vm, .val (.int .i64 k), .val (.int .i64 k), .val (.bool true), .val (.bool true), .val (.bool true), .val vv, .val (.int .i64 q), .val (.slice (some ⟨g, 0, none⟩) R cv), .val (.int .i64 R), .val (.slice (some ⟨g, 0, none⟩) R cv), .val (.pointer (some ⟨g, 0, none⟩)), .val (.slice (some ⟨g0, 0, none⟩) C c0), .val (.int .i64 C), .val (.int .i64 P), .val (.int .i64 k), .val (.int .i64 q), .val (.bool true), .val (.bool true), .val (.bool true), .val (.int .i64 d), .val (.bool true), .val (.bool true), .val (.bool true), .val (.int .i64 d), .val vb, .val (.slice (some ⟨g, 0, none⟩) R cv), .val (.int .i64 d), .val (.bool true), .val (.bool true), .val (.bool true), .val (.int .i64 d), .val (.bool s), .val (.slice (some ⟨g, 0, none⟩) R cv), .val vb, .val (.bool s), .val (.bool true), .val (.bool true), .val (.bool true), .val (.slice (some ⟨g, 0, none⟩) R cv), .val vv, .val (.int .i64 P), .val (.slice (some ⟨g, 0, none⟩) R cv), .val (.int .i64 R), .val (.slice (some ⟨g, 0, none⟩) R cv), .val (.pointer (some ⟨g, 0, none⟩)), .val (.slice (some ⟨g0, 0, none⟩) C c0), .val (.int .i64 C), .val (.int .i64 P), .val (.bool true), .val (.bool true), .val (.bool true), .val vt, .val (.slice (some ⟨g, 0, none⟩) R cv), .val (.int .i64 R), .val (.int .i64 ((R : Int) - 1)), .val (.int .i64 z), .val (.slice (some ⟨g, 0, none⟩) R cv), .val (.slice (some ⟨g, 0, none⟩) R cv), .val (.int .i64 R), .val (.int .i64 ((R : Int) - 1)), .val (.pointer (some ⟨g, R - 1, none⟩)), .val (.slice (some ⟨g9, 0, none⟩) C c9), .val (.pointer (some ⟨g9, 0, none⟩)), .val (.int .i64 z), .val (.bool true), .val (.bool true), .val (.bool true)]
set_option maxRecDepth 100000 in
set_option maxHeartbeats 4000000 in
theorem lawImages_walk (a : Option Addr) (n c : Nat) (w : World) (hin : InBytes w w.heap.size a n) :
    Calls Try.prog 3 #[.slice a n c] w fun e w' => e = .returned (.bool true) ∧ Below w.heap.size w w' := by
  have hmax := hin.1
  unfold maxLen at hmax
  by_cases hbig : 1048576 < n
  · go_enter Try.func3, Try.ntmps3
    clear hin
    go_wp2
    go_ret
    exact ⟨rfl, Below.refl _ _⟩
  · have HI := hide hin
    clear hin
    go_enter Try.func3, Try.ntmps3
    go_wp2_with fail
    refine (makeImage_any n c a 0 _ _ HI.out (by omega) (by omega)).mono ?_
    rintro e w1 ⟨v0, R, C, f, rfl, him, ho1, hb1⟩
    have hR := him.r2; have hR1 := him.r1; have hC := him.c2; have hC1 := him.c1
    obtain ⟨g, cv, rfl⟩ := ownMat_some ho1 (by rw [mkM_len]; omega)
    rw [mkM_len] at *
    obtain ⟨g0, c0, hx0, -, -, -, hg0, -⟩ := ownMat_cell ho1 0 0 (by omega) (by omega)
    obtain ⟨g9, c9, hx9, hy9, -, -, hg9, -⟩ := ownMat_cell ho1 (R - 1) 0 (by omega) (by omega)
    have hg : g < w1.heap.size := World.block_lt_of_cell? w1 _ hx0
    have HX0 := hide hx0; have HX9 := hide hx9; have HY9 := hide hy9
    have HM := hide him; have HR1 := hide (reads_cons (inMat_own ho1) (reads_nil w1)); have HB1 := hide hb1
    have HI1 := hide (inBytes_below HI.out hb1)
    clear him ho1 hb1 hx9 hy9
    go_wp2_with fail
    refine (makeSized_any n c a 20 R C _ _ (HI1.out) (by omega) (by omega) ⟨hR1, hR⟩ ⟨hC1, hC⟩).mono ?_
    rintro e w2 ⟨vb, h, rfl, him2, ho2, hb2⟩
    clear hx0 HI1
    have HM2 := hide him2; have HR2 := hide (reads_cons (inMat_own ho2) (reads_below HR1.out hb2)); have HB2 := hide (HB1.out.trans (hb2.mono HB1.out.size)); have HW2 := hide hb2
    clear him2 ho2 hb2 HR1
    -- the numbers
    obtain ⟨k, hk⟩ : ∃ k, cnt (fun i => imgF R C f i == 1) 25 = k := ⟨_, rfl⟩
    obtain ⟨d, hd⟩ : ∃ d, cnt (fun i => imgF R C f i != imgF R C h i) 25 = d := ⟨_, rfl⟩
    obtain ⟨q, hq⟩ : ∃ q, cnt (fun i => imgF R C (invM f) i == 1) 25 = q := ⟨_, rfl⟩
    obtain ⟨P, hP⟩ : ∃ P, R * C = P := ⟨_, rfl⟩
    have hq25 : q ≤ 25 := by rw [← hq]; exact cnt_le _ _
    have hk25 : k ≤ 25 := by rw [← hk]; exact cnt_le _ _
    have hd25 : d ≤ 25 := by rw [← hd]; exact cnt_le _ _
    have hP25 : P ≤ 25 := by rw [← hP]; exact Nat.le_trans (Nat.mul_le_mul hR hC) (by decide)
    have hqk : q + k = P := by rw [← hq, ← hk, ← hP]; exact cnt_inv HM.out
    have HK := hide hk; have HD := hide hd; have HQ := hide hq
    have HKT := hide ((cnt_tr R C f).trans hk)
    have HKM := hide ((cnt_mir HM.out).trans hk)
    have HDS := hide ((cnt_sym R C f h).trans hd)
    have HPA := hide ((cnt_all HM.out).trans hP)
    have hRC : (R : Int) * (C : Int) = (P : Int) := by rw [← hP]; exact (Int.natCast_mul R C).symm
    have HRC := hide hRC
    obtain ⟨s, hs⟩ : ∃ s : Bool, ((d : Nat) == 0) = s := ⟨_, rfl⟩
    have HS : Hid ((mkM R C f == mkM R C h) = s) := hide (by rw [← hs, ← hd]; exact (cnt_zero HM.out HM2.out).symm)
    have hs2 : ((d : Int) == 0) = s := by rw [← hs, Bool.eq_iff_iff]; simp
    have HS2 := hide hs2
    have HPQ : Hid ((P : Int) - k = q) := hide (by omega)
    have HRR : Hid (mkM R C (trM (trM f)) = mkM R C f) := hide rfl
    have HMM : Hid (mkM R C (mirM C (mirM C f)) = mkM R C f) := hide (mkM_congr fun y x hy hx => by simp only [mirM]; rw [show C - 1 - (C - 1 - x) = x by omega])
    have HVV : Hid (mkM R C (invM (invM f)) = mkM R C f) := hide (mkM_congr fun y x hy hx => by simp only [invM]; omega)
    have HAT : Hid (atM C R (trM f) 0 ((R : Int) - 1) = f (R - 1) 0) := hide (by rw [atM, if_pos (by omega), trM, show ((R : Int) - 1).toNat = R - 1 by omega]; rfl)
    clear hk hd hq hP hRC hs hs2 hqk
    obtain ⟨z, hz⟩ : ∃ z, f (R - 1) 0 = z := ⟨_, rfl⟩
    rw [hz] at HAT HY9
    clear hz
    go_wp2_with fail
    refine (trans_eq (.slice (some ⟨g, 0, none⟩) R cv) R C f _ _ (reads_at HR2.out (by simp)) HM.out rfl).mono ?_
    rintro e w3 ⟨vt, rfl, ho3, hb3⟩
    have HR3 := hide (reads_cons (inMat_own ho3) (reads_below HR2.out hb3)); have HB3 := hide (HB2.out.trans (hb3.mono HB2.out.size)); have HW3 := hide (HW2.out.trans (hb3.mono HW2.out.size))
    clear ho3 hb3 HR2 HB2 HW2
    go_wp2_with fail
    refine (mirror_eq (.slice (some ⟨g, 0, none⟩) R cv) R C f _ _ (reads_at HR3.out (by simp)) HM.out rfl).mono ?_
    rintro e w4 ⟨vm, rfl, ho4, hb4⟩
    have HR4 := hide (reads_cons (inMat_own ho4) (reads_below HR3.out hb4)); have HB4 := hide (HB3.out.trans (hb4.mono HB3.out.size)); have HW4 := hide (HW3.out.trans (hb4.mono HW3.out.size))
    clear ho4 hb4 HR3 HB3 HW3
    go_wp2_with fail
    refine (invert_eq (.slice (some ⟨g, 0, none⟩) R cv) R C f _ _ (reads_at HR4.out (by simp)) HM.out rfl).mono ?_
    rintro e w5 ⟨vv, rfl, ho5, hb5⟩
    have HR5 := hide (reads_cons (inMat_own ho5) (reads_below HR4.out hb5)); have HB5 := hide (HB4.out.trans (hb5.mono HB4.out.size)); have HW5 := hide (HW4.out.trans (hb5.mono HW4.out.size))
    clear ho5 hb5 HR4 HB4 HW4
    go_wp2_with fail
    refine (count_eq (.slice (some ⟨g, 0, none⟩) R cv) R C f _ k (reads_at HR5.out (by simp)) HM.out HK.out).mono ?_
    rintro e w6 ⟨rfl, hb6⟩
    have HR6 := hide (reads_below HR5.out hb6); have HB6 := hide (HB5.out.trans (hb6.mono HB5.out.size)); have HW6 := hide (HW5.out.trans (hb6.mono HW5.out.size))
    clear hb6 HR5 HB5 HW5
    go_wp2_with fail
    refine (dist_eq (.slice (some ⟨g, 0, none⟩) R cv) vb R C f h _ d (reads_at HR6.out (by simp)) (reads_at HR6.out (by simp)) HM.out HM2.out HD.out).mono ?_
    rintro e w7 ⟨rfl, hb7⟩
    have HR7 := hide (reads_below HR6.out hb7); have HB7 := hide (HB6.out.trans (hb7.mono HB6.out.size)); have HW7 := hide (HW6.out.trans (hb7.mono HW6.out.size))
    clear hb7 HR6 HB6 HW6
    go_wp2_with fail
    have hinit : w7.drew.cell? ⟨g, 0, none⟩ = some (.slice (some ⟨g0, 0, none⟩) C c0) ∧ w7.drew.cell? ⟨g, R - 1, none⟩ = some (.slice (some ⟨g9, 0, none⟩) C c9) ∧ w7.drew.cell? ⟨g9, 0, none⟩ = some (.int .i64 z) ∧ Held w w1 _ w7.drew :=
      ⟨below_cell HW7.out hg HX0.out, below_cell HW7.out hg HX9.out, below_cell HW7.out hg9 HY9.out, reads_below HR7.out (Below.refl _ _).drew, HW7.out.drew, HB7.out.drew⟩
    have l1 : IntKind.i64.wrap ((R : Int) * (C : Int)) = P := by rw [HRC.out]; exact IntWalk.i64_in _ (by omega)
    have l2 : IntKind.i64.wrap ((P : Int) - (k : Int)) = q := by rw [HPQ.out]; exact IntWalk.i64_in _ (by omega)
    have l3 : IntKind.i64.wrap ((R : Int) - 1) = (R : Int) - 1 := IntWalk.i64_in _ (by omega)
    have l4 : (0 : Int) ≤ (R : Int) - 1 := by omega
    have l5 : ((R : Int) - 1).toNat = R - 1 := by omega
    have l6 := HS2.out
    have l7 : (0 : Int) < (R : Int) := by omega
    have l11 : 0 < R := by omega
    have l12 : 0 < C := by omega
    have l13 : (1 : Int) ≤ (R : Int) := by omega
    have l14 : 1 ≤ R := by omega
    have l8 : (R : Int) - 1 < (R : Int) := by omega
    have l9 : IntKind.i64.wrap (P : Int) = P := IntWalk.i64_in _ (by omega)
    have l10 : IntKind.i64.wrap (q : Int) = q := IntWalk.i64_in _ (by omega)
    dsimp only [List.append]
    refine wp_region_obs (S := imgS w w1 R C g cv g0 c0 g9 c9 f h vb vt vm vv z) (imgFs R C k d q P g cv g0 c0 g9 c9 f vb vt vm vv s z) (imgBase R k d g cv vb vt vm vv) imgDsts (by kernel_rfl) (by kernel_rfl) (by kernel_rfl) (by kernel_rfl) ?base hinit ?ob ?fin
    case base =>
      intro t v ht
      simp only [imgBase, List.lookup_cons, List.lookup_nil] at ht
      repeat' split at ht
      all_goals first | (cases ht; done) | (obtain rfl := Option.some.inj ht; rename_i hh; obtain rfl := eq_of_beq hh; rfl)
    case fin =>
      intro a' w' h1 h2 h3 h4
      go_wp2
      have hr : a'.tmps.getD 2 undef = .bool true := h4 90 2 rfl
      refine bodyPost_ret (results_tmp rfl _ _ _) h2 ⟨by rw [hr], h3.2.2.2.2.2⟩
    case ob =>
      have HM := HM.out; have HM2 := HM2.out; have HRR := HRR.out; have HMM := HMM.out; have HVV := HVV.out; have HKT := HKT.out; have HKM := HKM.out; have HQ := HQ.out; have HDS := HDS.out; have HS := HS.out; have HPA := HPA.out; have HAT := HAT.out
      exact ⟨obk_move vt rfl rfl (.inl rfl) (src_b 5 rfl),
        obk_call [vt] rfl Try.func16 (by kernel_rfl) (by kernel_rfl) (.inl rfl) ⟨(src_j 0 rfl (by kernel_rfl) rfl), trivial⟩ (fun w hS => (trans_eq vt C R (trM f) _ _ (held_at hS (by simp)) (img_tr HM) HRR).mono fun e w2 hh => ⟨_, hh.choose_spec.1, held_step hS hh.choose_spec.2.2, hh.choose_spec.2.2, inMat_own hh.choose_spec.2.1⟩),
        obk_move (.slice (some ⟨g, 0, none⟩) R cv) rfl rfl (.inl rfl) (src_b 3 rfl),
        obk_call1 1 rfl Try.func21 (by kernel_rfl) (by kernel_rfl) (.inl rfl) rfl (by kernel_rfl) rfl (src_j 2 rfl (by kernel_rfl) rfl) (fun v w hS hv => (alike_yes v (.slice (some ⟨g, 0, none⟩) R cv) (mkM R C f) w hv (held_at hS (by simp))).mono fun e w2 hh => ⟨_, hh.1, held_step hS hh.2, hh.2, rfl⟩),
        obk_move (.bool true) rfl rfl (.inl rfl) (src_j 3 rfl (by kernel_rfl) rfl),
        obk_move vm rfl rfl (yes_j 4 rfl rfl (by kernel_rfl) rfl) (src_b 6 rfl),
        obk_call [vm] rfl Try.func17 (by kernel_rfl) (by kernel_rfl) (yes_j 4 rfl rfl (by kernel_rfl) rfl) ⟨(src_j 5 rfl (by kernel_rfl) rfl), trivial⟩ (fun w hS => (mirror_eq vm R C (mirM C f) _ _ (held_at hS (by simp)) (img_mir HM) HMM).mono fun e w2 hh => ⟨_, hh.choose_spec.1, held_step hS hh.choose_spec.2.2, hh.choose_spec.2.2, inMat_own hh.choose_spec.2.1⟩),
        obk_move (.slice (some ⟨g, 0, none⟩) R cv) rfl rfl (yes_j 4 rfl rfl (by kernel_rfl) rfl) (src_b 3 rfl),
        obk_call1 6 rfl Try.func21 (by kernel_rfl) (by kernel_rfl) (yes_j 4 rfl rfl (by kernel_rfl) rfl) rfl (by kernel_rfl) rfl (src_j 7 rfl (by kernel_rfl) rfl) (fun v w hS hv => (alike_yes v (.slice (some ⟨g, 0, none⟩) R cv) (mkM R C f) w hv (held_at hS (by simp))).mono fun e w2 hh => ⟨_, hh.1, held_step hS hh.2, hh.2, rfl⟩),
        obk_pick (.bool true) rfl rfl (.inl rfl) (src_j 4 rfl (by kernel_rfl) rfl) (src_j 8 rfl (by kernel_rfl) rfl),
        obk_move (.bool true) rfl rfl (.inl rfl) (src_j 9 rfl (by kernel_rfl) rfl),
        obk_move vv rfl rfl (yes_j 10 rfl rfl (by kernel_rfl) rfl) (src_b 7 rfl),
        obk_call [vv] rfl Try.func18 (by kernel_rfl) (by kernel_rfl) (yes_j 10 rfl rfl (by kernel_rfl) rfl) ⟨(src_j 11 rfl (by kernel_rfl) rfl), trivial⟩ (fun w hS => (invert_eq vv R C (invM f) _ _ (held_at hS (by simp)) (img_inv HM) HVV).mono fun e w2 hh => ⟨_, hh.choose_spec.1, held_step hS hh.choose_spec.2.2, hh.choose_spec.2.2, inMat_own hh.choose_spec.2.1⟩),
        obk_move (.slice (some ⟨g, 0, none⟩) R cv) rfl rfl (yes_j 10 rfl rfl (by kernel_rfl) rfl) (src_b 3 rfl),
        obk_call1 12 rfl Try.func21 (by kernel_rfl) (by kernel_rfl) (yes_j 10 rfl rfl (by kernel_rfl) rfl) rfl (by kernel_rfl) rfl (src_j 13 rfl (by kernel_rfl) rfl) (fun v w hS hv => (alike_yes v (.slice (some ⟨g, 0, none⟩) R cv) (mkM R C f) w hv (held_at hS (by simp))).mono fun e w2 hh => ⟨_, hh.1, held_step hS hh.2, hh.2, rfl⟩),
        obk_pick (.bool true) rfl rfl (.inl rfl) (src_j 10 rfl (by kernel_rfl) rfl) (src_j 14 rfl (by kernel_rfl) rfl),
        obk_move (.bool true) rfl rfl (.inl rfl) (src_j 15 rfl (by kernel_rfl) rfl),
        obk_move vt rfl rfl (yes_j 16 rfl rfl (by kernel_rfl) rfl) (src_b 5 rfl),
        obk_call [vt] rfl Try.func19 (by kernel_rfl) (by kernel_rfl) (yes_j 16 rfl rfl (by kernel_rfl) rfl) ⟨(src_j 17 rfl (by kernel_rfl) rfl), trivial⟩ (fun w hS => (count_eq vt C R (trM f) _ k (held_at hS (by simp)) (img_tr HM) HKT).mono fun e w2 hh => ⟨_, hh.1, held_step hS hh.2, hh.2, rfl⟩),
        obk_move (.int .i64 k) rfl rfl (yes_j 16 rfl rfl (by kernel_rfl) rfl) (src_b 8 rfl),
        obk_two (.bool true) rfl (yes_j 16 rfl rfl (by kernel_rfl) rfl) (src_j 18 rfl (by kernel_rfl) rfl) (src_j 19 rfl (by kernel_rfl) rfl) (fun ρ w hS hx hy => (by go_simp)),
        obk_pick (.bool true) rfl rfl (.inl rfl) (src_j 16 rfl (by kernel_rfl) rfl) (src_j 20 rfl (by kernel_rfl) rfl),
        obk_move (.bool true) rfl rfl (.inl rfl) (src_j 21 rfl (by kernel_rfl) rfl),
        obk_move vm rfl rfl (yes_j 22 rfl rfl (by kernel_rfl) rfl) (src_b 6 rfl),
        obk_call [vm] rfl Try.func19 (by kernel_rfl) (by kernel_rfl) (yes_j 22 rfl rfl (by kernel_rfl) rfl) ⟨(src_j 23 rfl (by kernel_rfl) rfl), trivial⟩ (fun w hS => (count_eq vm R C (mirM C f) _ k (held_at hS (by simp)) (img_mir HM) HKM).mono fun e w2 hh => ⟨_, hh.1, held_step hS hh.2, hh.2, rfl⟩),
        obk_move (.int .i64 k) rfl rfl (yes_j 22 rfl rfl (by kernel_rfl) rfl) (src_b 8 rfl),
        obk_two (.bool true) rfl (yes_j 22 rfl rfl (by kernel_rfl) rfl) (src_j 24 rfl (by kernel_rfl) rfl) (src_j 25 rfl (by kernel_rfl) rfl) (fun ρ w hS hx hy => (by go_simp)),
        obk_pick (.bool true) rfl rfl (.inl rfl) (src_j 22 rfl (by kernel_rfl) rfl) (src_j 26 rfl (by kernel_rfl) rfl),
        obk_move (.bool true) rfl rfl (.inl rfl) (src_j 27 rfl (by kernel_rfl) rfl),
        obk_move vv rfl rfl (yes_j 28 rfl rfl (by kernel_rfl) rfl) (src_b 7 rfl),
        obk_call [vv] rfl Try.func19 (by kernel_rfl) (by kernel_rfl) (yes_j 28 rfl rfl (by kernel_rfl) rfl) ⟨(src_j 29 rfl (by kernel_rfl) rfl), trivial⟩ (fun w hS => (count_eq vv R C (invM f) _ q (held_at hS (by simp)) (img_inv HM) HQ).mono fun e w2 hh => ⟨_, hh.1, held_step hS hh.2, hh.2, rfl⟩),
        obk_move (.slice (some ⟨g, 0, none⟩) R cv) rfl rfl (yes_j 28 rfl rfl (by kernel_rfl) rfl) (src_b 3 rfl),
        obk_one (.int .i64 R) rfl (yes_j 28 rfl rfl (by kernel_rfl) rfl) (src_j 31 rfl (by kernel_rfl) rfl) (fun ρ w hS hx => (by go_simp)),
        obk_move (.slice (some ⟨g, 0, none⟩) R cv) rfl rfl (yes_j 28 rfl rfl (by kernel_rfl) rfl) (src_b 3 rfl),
        obk_two (.pointer (some ⟨g, 0, none⟩)) rfl (yes_j 28 rfl rfl (by kernel_rfl) rfl) (src_j 33 rfl (by kernel_rfl) rfl) (src_c (v := .int .i64 0)) (fun ρ w hS hx hy => (by go_simp)),
        obk_one (.slice (some ⟨g0, 0, none⟩) C c0) rfl (yes_j 28 rfl rfl (by kernel_rfl) rfl) (src_j 34 rfl (by kernel_rfl) rfl) (fun ρ w hS hx => (by obtain ⟨c1, c2, c3, -⟩ := hS; go_simp)),
        obk_one (.int .i64 C) rfl (yes_j 28 rfl rfl (by kernel_rfl) rfl) (src_j 35 rfl (by kernel_rfl) rfl) (fun ρ w hS hx => (by go_simp)),
        obk_two (.int .i64 P) rfl (yes_j 28 rfl rfl (by kernel_rfl) rfl) (src_j 32 rfl (by kernel_rfl) rfl) (src_j 36 rfl (by kernel_rfl) rfl) (fun ρ w hS hx hy => (by go_simp)),
        obk_move (.int .i64 k) rfl rfl (yes_j 28 rfl rfl (by kernel_rfl) rfl) (src_b 8 rfl),
        obk_two (.int .i64 q) rfl (yes_j 28 rfl rfl (by kernel_rfl) rfl) (src_j 37 rfl (by kernel_rfl) rfl) (src_j 38 rfl (by kernel_rfl) rfl) (fun ρ w hS hx hy => (by go_simp)),
        obk_two (.bool true) rfl (yes_j 28 rfl rfl (by kernel_rfl) rfl) (src_j 30 rfl (by kernel_rfl) rfl) (src_j 39 rfl (by kernel_rfl) rfl) (fun ρ w hS hx hy => (by go_simp)),
        obk_pick (.bool true) rfl rfl (.inl rfl) (src_j 28 rfl (by kernel_rfl) rfl) (src_j 40 rfl (by kernel_rfl) rfl),
        obk_move (.bool true) rfl rfl (.inl rfl) (src_j 41 rfl (by kernel_rfl) rfl),
        obk_move (.int .i64 d) rfl rfl (yes_j 42 rfl rfl (by kernel_rfl) rfl) (src_b 9 rfl),
        obk_two (.bool true) rfl (yes_j 42 rfl rfl (by kernel_rfl) rfl) (src_j 43 rfl (by kernel_rfl) rfl) (src_c (v := .int .i64 0)) (fun ρ w hS hx hy => (by go_simp)),
        obk_pick (.bool true) rfl rfl (.inl rfl) (src_j 42 rfl (by kernel_rfl) rfl) (src_j 44 rfl (by kernel_rfl) rfl),
        obk_move (.bool true) rfl rfl (.inl rfl) (src_j 45 rfl (by kernel_rfl) rfl),
        obk_move (.int .i64 d) rfl rfl (yes_j 46 rfl rfl (by kernel_rfl) rfl) (src_b 9 rfl),
        obk_move vb rfl rfl (yes_j 46 rfl rfl (by kernel_rfl) rfl) (src_b 4 rfl),
        obk_move (.slice (some ⟨g, 0, none⟩) R cv) rfl rfl (yes_j 46 rfl rfl (by kernel_rfl) rfl) (src_b 3 rfl),
        obk_call [vb, (.slice (some ⟨g, 0, none⟩) R cv)] rfl Try.func20 (by kernel_rfl) (by kernel_rfl) (yes_j 46 rfl rfl (by kernel_rfl) rfl) ⟨(src_j 48 rfl (by kernel_rfl) rfl), (src_j 49 rfl (by kernel_rfl) rfl), trivial⟩ (fun w hS => (dist_eq vb (.slice (some ⟨g, 0, none⟩) R cv) R C h f _ d (held_at hS (by simp)) (held_at hS (by simp)) HM2 HM HDS).mono fun e w2 hh => ⟨_, hh.1, held_step hS hh.2, hh.2, rfl⟩),
        obk_two (.bool true) rfl (yes_j 46 rfl rfl (by kernel_rfl) rfl) (src_j 47 rfl (by kernel_rfl) rfl) (src_j 50 rfl (by kernel_rfl) rfl) (fun ρ w hS hx hy => (by go_simp)),
        obk_pick (.bool true) rfl rfl (.inl rfl) (src_j 46 rfl (by kernel_rfl) rfl) (src_j 51 rfl (by kernel_rfl) rfl),
        obk_move (.bool true) rfl rfl (.inl rfl) (src_j 52 rfl (by kernel_rfl) rfl),
        obk_move (.int .i64 d) rfl rfl (yes_j 53 rfl rfl (by kernel_rfl) rfl) (src_b 9 rfl),
        obk_two (.bool s) rfl (yes_j 53 rfl rfl (by kernel_rfl) rfl) (src_j 54 rfl (by kernel_rfl) rfl) (src_c (v := .int .i64 0)) (fun ρ w hS hx hy => (by go_simp)),
        obk_move (.slice (some ⟨g, 0, none⟩) R cv) rfl rfl (yes_j 53 rfl rfl (by kernel_rfl) rfl) (src_b 3 rfl),
        obk_move vb rfl rfl (yes_j 53 rfl rfl (by kernel_rfl) rfl) (src_b 4 rfl),
        obk_call [(.slice (some ⟨g, 0, none⟩) R cv), vb] rfl Try.func22 (by kernel_rfl) (by kernel_rfl) (yes_j 53 rfl rfl (by kernel_rfl) rfl) ⟨(src_j 56 rfl (by kernel_rfl) rfl), (src_j 57 rfl (by kernel_rfl) rfl), trivial⟩ (fun w hS => (sameImage_eq (.slice (some ⟨g, 0, none⟩) R cv) vb _ _ _ s (held_at hS (by simp)) (held_at hS (by simp)) HS).mono fun e w2 hh => ⟨_, hh.1, held_step hS hh.2, hh.2, rfl⟩),
        obk_two (.bool true) rfl (yes_j 53 rfl rfl (by kernel_rfl) rfl) (src_j 55 rfl (by kernel_rfl) rfl) (src_j 58 rfl (by kernel_rfl) rfl) (fun ρ w hS hx hy => (by go_simp)),
        obk_pick (.bool true) rfl rfl (.inl rfl) (src_j 53 rfl (by kernel_rfl) rfl) (src_j 59 rfl (by kernel_rfl) rfl),
        obk_move (.bool true) rfl rfl (.inl rfl) (src_j 60 rfl (by kernel_rfl) rfl),
        obk_move (.slice (some ⟨g, 0, none⟩) R cv) rfl rfl (yes_j 61 rfl rfl (by kernel_rfl) rfl) (src_b 3 rfl),
        obk_move vv rfl rfl (yes_j 61 rfl rfl (by kernel_rfl) rfl) (src_b 7 rfl),
        obk_call [(.slice (some ⟨g, 0, none⟩) R cv), vv] rfl Try.func20 (by kernel_rfl) (by kernel_rfl) (yes_j 61 rfl rfl (by kernel_rfl) rfl) ⟨(src_j 62 rfl (by kernel_rfl) rfl), (src_j 63 rfl (by kernel_rfl) rfl), trivial⟩ (fun w hS => (dist_eq (.slice (some ⟨g, 0, none⟩) R cv) vv R C f (invM f) _ P (held_at hS (by simp)) (held_at hS (by simp)) HM (img_inv HM) HPA).mono fun e w2 hh => ⟨_, hh.1, held_step hS hh.2, hh.2, rfl⟩),
        obk_move (.slice (some ⟨g, 0, none⟩) R cv) rfl rfl (yes_j 61 rfl rfl (by kernel_rfl) rfl) (src_b 3 rfl),
        obk_one (.int .i64 R) rfl (yes_j 61 rfl rfl (by kernel_rfl) rfl) (src_j 65 rfl (by kernel_rfl) rfl) (fun ρ w hS hx => (by go_simp)),
        obk_move (.slice (some ⟨g, 0, none⟩) R cv) rfl rfl (yes_j 61 rfl rfl (by kernel_rfl) rfl) (src_b 3 rfl),
        obk_two (.pointer (some ⟨g, 0, none⟩)) rfl (yes_j 61 rfl rfl (by kernel_rfl) rfl) (src_j 67 rfl (by kernel_rfl) rfl) (src_c (v := .int .i64 0)) (fun ρ w hS hx hy => (by go_simp)),
        obk_one (.slice (some ⟨g0, 0, none⟩) C c0) rfl (yes_j 61 rfl rfl (by kernel_rfl) rfl) (src_j 68 rfl (by kernel_rfl) rfl) (fun ρ w hS hx => (by obtain ⟨c1, c2, c3, -⟩ := hS; go_simp)),
        obk_one (.int .i64 C) rfl (yes_j 61 rfl rfl (by kernel_rfl) rfl) (src_j 69 rfl (by kernel_rfl) rfl) (fun ρ w hS hx => (by go_simp)),
        obk_two (.int .i64 P) rfl (yes_j 61 rfl rfl (by kernel_rfl) rfl) (src_j 66 rfl (by kernel_rfl) rfl) (src_j 70 rfl (by kernel_rfl) rfl) (fun ρ w hS hx hy => (by go_simp)),
        obk_two (.bool true) rfl (yes_j 61 rfl rfl (by kernel_rfl) rfl) (src_j 64 rfl (by kernel_rfl) rfl) (src_j 71 rfl (by kernel_rfl) rfl) (fun ρ w hS hx hy => (by go_simp)),
        obk_pick (.bool true) rfl rfl (.inl rfl) (src_j 61 rfl (by kernel_rfl) rfl) (src_j 72 rfl (by kernel_rfl) rfl),
        obk_move (.bool true) rfl rfl (.inl rfl) (src_j 73 rfl (by kernel_rfl) rfl),
        obk_move vt rfl rfl (yes_j 74 rfl rfl (by kernel_rfl) rfl) (src_b 5 rfl),
        obk_move (.slice (some ⟨g, 0, none⟩) R cv) rfl rfl (yes_j 74 rfl rfl (by kernel_rfl) rfl) (src_b 3 rfl),
        obk_one (.int .i64 R) rfl (yes_j 74 rfl rfl (by kernel_rfl) rfl) (src_j 76 rfl (by kernel_rfl) rfl) (fun ρ w hS hx => (by go_simp)),
        obk_two (.int .i64 ((R : Int) - 1)) rfl (yes_j 74 rfl rfl (by kernel_rfl) rfl) (src_j 77 rfl (by kernel_rfl) rfl) (src_c (v := .int .i64 1)) (fun ρ w hS hx hy => (by go_simp)),
        obk_call [vt, (.int .i64 0), (.int .i64 ((R : Int) - 1))] rfl Try.func23 (by kernel_rfl) (by kernel_rfl) (yes_j 74 rfl rfl (by kernel_rfl) rfl) ⟨(src_j 75 rfl (by kernel_rfl) rfl), (src_c (v := .int .i64 0)), (src_j 78 rfl (by kernel_rfl) rfl), trivial⟩ (fun w hS => (cellAt_eq vt C R (trM f) 0 ((R : Int) - 1) _ z (held_at hS (by simp)) (img_tr HM) HAT).mono fun e w2 hh => ⟨_, hh.1, held_step hS hh.2, hh.2, rfl⟩),
        obk_move (.slice (some ⟨g, 0, none⟩) R cv) rfl rfl (yes_j 74 rfl rfl (by kernel_rfl) rfl) (src_b 3 rfl),
        obk_move (.slice (some ⟨g, 0, none⟩) R cv) rfl rfl (yes_j 74 rfl rfl (by kernel_rfl) rfl) (src_b 3 rfl),
        obk_one (.int .i64 R) rfl (yes_j 74 rfl rfl (by kernel_rfl) rfl) (src_j 81 rfl (by kernel_rfl) rfl) (fun ρ w hS hx => (by go_simp)),
        obk_two (.int .i64 ((R : Int) - 1)) rfl (yes_j 74 rfl rfl (by kernel_rfl) rfl) (src_j 82 rfl (by kernel_rfl) rfl) (src_c (v := .int .i64 1)) (fun ρ w hS hx hy => (by go_simp)),
        obk_two (.pointer (some ⟨g, R - 1, none⟩)) rfl (yes_j 74 rfl rfl (by kernel_rfl) rfl) (src_j 80 rfl (by kernel_rfl) rfl) (src_j 83 rfl (by kernel_rfl) rfl) (fun ρ w hS hx hy => (by go_simp)),
        obk_one (.slice (some ⟨g9, 0, none⟩) C c9) rfl (yes_j 74 rfl rfl (by kernel_rfl) rfl) (src_j 84 rfl (by kernel_rfl) rfl) (fun ρ w hS hx => (by obtain ⟨c1, c2, c3, -⟩ := hS; go_simp)),
        obk_two (.pointer (some ⟨g9, 0, none⟩)) rfl (yes_j 74 rfl rfl (by kernel_rfl) rfl) (src_j 85 rfl (by kernel_rfl) rfl) (src_c (v := .int .i64 0)) (fun ρ w hS hx hy => (by go_simp)),
        obk_one (.int .i64 z) rfl (yes_j 74 rfl rfl (by kernel_rfl) rfl) (src_j 86 rfl (by kernel_rfl) rfl) (fun ρ w hS hx => (by obtain ⟨c1, c2, c3, -⟩ := hS; go_simp)),
        obk_two (.bool true) rfl (yes_j 74 rfl rfl (by kernel_rfl) rfl) (src_j 79 rfl (by kernel_rfl) rfl) (src_j 87 rfl (by kernel_rfl) rfl) (fun ρ w hS hx hy => (by go_simp)),
        obk_pick (.bool true) rfl rfl (.inl rfl) (src_j 74 rfl (by kernel_rfl) rfl) (src_j 88 rfl (by kernel_rfl) rfl),
        obk_assign (.bool true) rfl rfl (.inl rfl) (src_j 89 rfl (by kernel_rfl) rfl), trivial⟩
end Go.Proofs.Ytcpcplggoogpeaa
