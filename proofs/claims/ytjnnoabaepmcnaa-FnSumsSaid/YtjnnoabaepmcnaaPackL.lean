/-
  Texts of this claim, one behind the other: Lists, Arr2, Arr3, Arr4, Impl, SpecI, SpecT, ColS, FnSumP, Draw, Pick.
-/
import Derived.Test.YtjnnoabaepmcnaaPackH
import Derived.Test.YtjnnoabaepmcnaaPackK
import Derived.Test.YtjnnoabaepmcnaaPackD
/-
  The program's images: size, lists.
-/
namespace Go.Proofs.Ytjnnoabaepmcnaa
open Go.RowKit

set_option maxHeartbeats 400000 in
theorem size_any (G : Nat → Int) (n : Nat) (w : World) (hn : n ≤ 5) (h1 : ∀ j, j < n → G j ≠ -1) (h2 : n = 5 ∨ G n = -1) :
    Calls Try.prog 74 #[.agg (vec 5 G)] w fun e w' => e = .returned (.int .i64 n) ∧ Below w.heap.size w w' := by
  have N1 := hide h1; have N2 := hide h2
  clear h1 h2
  go_enter Try.func74, Try.ntmps74
  go_wp2_with (with_reducible refine wpList_boxVec 5 G 1 rfl rfl (.tmp 0) rfl rfl ?_; intro w1 h1 b1 s1)
  have H1 := hide h1; have B1 := hide b1
  clear h1 b1
  go_loop [3] (fun i => ∃ k : Nat, k ≤ n ∧ i = .int .i64 k) (fun i => n - (intOf i).toNat)
  case atStart => exact ⟨0, by omega, rfl⟩
  case round =>
    obtain ⟨k, hk, rfl⟩ := hrel
    by_cases hlt : k < n
    · have hx := blk_cell H1.out k (by omega)
      have hne := N1.out k hlt
      obtain ⟨y, hy⟩ : ∃ y, y = G k := ⟨_, rfl⟩
      rw [← hy] at hx hne
      have hb : (y != -1) = true := by simpa using hne
      have h5 : (k : Int) < 5 := by omega
      clear hy hne
      go_wp2
      go_round
      case rel => exact ⟨k + 1, by omega, by go_num⟩
      case measure => simp [intOf]; omega
    · obtain rfl : k = n := by omega
      by_cases h5 : k < 5
      · have hx := blk_cell H1.out k h5
        rw [N2.out.resolve_left (by omega)] at hx
        have h5' : (k : Int) < 5 := by omega
        go_wp2
        go_ret
        exact ⟨rfl, B1.out⟩
      · have h5' : ¬ (k : Int) < 5 := by omega
        go_wp2
        go_ret
        exact ⟨rfl, B1.out⟩

/-- A row of the padded image. -/
theorem imgF_row (R C : Nat) (f : Nat → Nat → Int) (y : Nat) : ∀ j, j < 5 → imgF R C f (y * 5 + j) = if y < R ∧ j < C then f y j else -1 := fun j hj => by
  rw [show y * 5 + j = 5 * y + j by omega, imgF_at R C f y j hj]

theorem ownMat_block {w w' : World} {lo hi g : Nat} {v : Value} {m : List (List Int)} (h : OwnMat w lo hi v m) (hg : w.grownBy w' (some g)) (hh : hi ≤ g) : OwnMat w' lo hi v m :=
  ownMat_within h (within_grown (lo := g) (hi := g + 1) hg fun k hk => by cases hk; exact ⟨Nat.le_refl _, Nat.lt_succ_self _⟩) (.inl hh)

set_option maxRecDepth 100000 in
set_option maxHeartbeats 1000000 in
theorem lists_any (R C : Nat) (f : Nat → Nat → Int) (w : World) (hI : Img R C f) :
    Calls Try.prog 46 #[.agg (vec 25 (imgF R C f))] w fun e w' => ∃ v, e = .returned v ∧ OwnMat w' w.heap.size w'.heap.size v (mkM R C f) ∧ Below w.heap.size w w' := by
  have hR := hI.r2; have hC := hI.c2; have hC1 := hI.c1
  have HI := hide hI
  clear hI
  go_enter Try.func46, Try.ntmps46
  go_wp2_with (first | (with_reducible refine wpList_boxVec 25 (imgF R C f) 1 rfl rfl (.tmp 0) rfl rfl ?_; intro w1 h1 b1 s1) | (with_reducible refine wpList_loadVec h1 7 rfl rfl _ rfl rfl Try.underlying56 Try.sizeImg ?_))
  have B1 := hide b1
  clear h1 b1 s1
  go_loopw [3, 8] (fun o i w' => ∃ (y : Nat) (v : Value), y ≤ 5 ∧ i = .int .i64 y ∧ v = o ∧ OwnMat w' w.heap.size w'.heap.size v (mkM (min y R) C f) ∧ Below w.heap.size w w') (fun _ i _ => 5 - (intOf i).toNat)
  case atStart => exact ⟨0, _, by omega, rfl, rfl, by rw [Nat.zero_min]; exact ownMat_nil _ _ _, B1.out⟩
  case round =>
    clear B1
    obtain ⟨y, v, hy, rfl, rfl, hown, hb⟩ := hrel
    have HO := hide hown; have HB := hide hb
    clear hown hb
    by_cases hlt : y < 5
    · have hyI : (y : Int) < 5 := by omega
      have HG := hide (imgF_row R C f y)
      have hsz := HB.out.size
      go_wp2_with (first | (with_reducible refine wpList_indexRow y 10 rfl rfl _ _ rfl rfl rfl Try.underlying56 Try.isAgg54 Try.sizeOf54 hlt (by omega) ?_) | (with_reducible refine wpList_allocVec 5 5 rfl rfl rfl Try.zeroRow ?_; intro w2 h2 b2 s2) | (with_reducible refine wpList_storeVec h2 rfl (.tmp 5) (.tmp 10) rfl rfl rfl Try.sizeRow ?_; intro w3 h3 g3 s3) | (with_reducible refine wpList_loadVec h3 11 rfl rfl _ rfl rfl Try.underlying54 Try.sizeRow ?_))
      have B3 := hide (HB.out.trans ((b2.mono hsz).trans (grown_below g3 (fun k hk => by cases hk; exact hsz) (by omega))))
      have O3 := hide (ownMat_block (ownMat_below HO.out b2) g3 (Nat.le_refl _))
      have H3 := hide h3
      have hs3 : w3.heap.size = wr.heap.size + 1 := by omega
      clear h2 b2 s2 h3 g3 s3
      by_cases hr : y < R
      · go_wp2_with fail
        refine (size_any _ C _ hC (fun j hj => ?_) ?_).mono ?_
        · rw [HG.out j (by omega), if_pos ⟨hr, hj⟩]
          rcases HI.out.cell y j hr hj with e | e <;> rw [e] <;> decide
        · by_cases e : C = 5
          · exact .inl e
          · right; rw [HG.out C (by omega), if_neg (by omega)]
        rintro e w4 ⟨rfl, b4⟩
        have H4 := hide (blk_below H3.out b4)
        have O4 := hide (ownMat_below O3.out b4)
        have B4 := hide (B3.out.trans (b4.mono (by omega)))
        have hs4 := b4.size
        clear b4
        have hpos : (0 : Int) < (C : Int) := by omega
        go_wp2_with (with_reducible refine wpList_sliceVec C 17 rfl rfl (.tmp 5) (.tmp 16) rfl rfl rfl Try.underlying54 Try.sizeOf3 hC ?_)
        refine (Try.slices_Clone_int wr.heap.size 0 C 5 (rowF C (f y)) _ (by rw [rowF_len]; exact Nat.le_refl _) (by omega) (fun j hj => ?_)).mono ?_
        · rw [rowF_len] at hj
          rw [Nat.zero_add, blk_cell H4.out j (by omega), HG.out j (by omega), if_pos ⟨hr, hj⟩, List.getD_eq_getElem?_getD, List.getElem?_eq_getElem (by rw [rowF_len]; exact hj), Option.getD_some, rowF_at]
        rintro e w5 ⟨u, rfl, hu, -, b5⟩
        have hu : w5.ownsRow w4.heap.size 3 1 u (rowF C (f y)).length (ints (rowF C (f y))) := by
          rw [rowF_len]
          have := hu
          rw [List.take_of_length_le (by rw [rowF_len]; exact Nat.le_refl _)] at this
          exact this
        obtain ⟨ua, uc, rfl⟩ := own_slice hu
        rw [rowF_len] at *
        have HU := hide hu
        have O5 := hide (ownMat_below O4.out b5)
        have B5 := hide (B4.out.trans (b5.mono (by omega)))
        have hs5 := b5.size
        clear hu b5
        have hmin : min y R = y := by omega
        rw [hmin] at O5
        clear hmin
        obtain ⟨vs, hv, hvh, hvr, hva⟩ := O5.out
        have hvl := mkM_len y C f
        rw [hvl] at hv
        have HV := hide hv; have HVH := hide hvh; have HVR := hide hvr; have HVA := hide hva
        clear hv hvh hvr hva hvl
        go_wp2_with (at_builtin; refine wpList_push HV.out (.slice ua C uc) (.slice none 0 0) rfl _ _ rfl Try.underlying23 Try.infoInts rfl (by decide) rfl rfl rfl (by omega) (by omega) ?_; intro v' w6 hown1 hb1 hg1)
        go_roundw
        case rel =>
          have hs6 := hb1.size
          have hp := ownMat_push (r := rowF C (f y)) (hi' := w6.heap.size) HVR.out HVA.out (by rw [mkM_len]; exact HV.out) (by rw [rowF_len]; exact own_base HU.out (by omega)) hsz (by omega) (by omega) hg1 (by rw [mkM_len]; exact hown1) (fun k e => (hown1.lt k e).2)
          rw [← mkM_succ, show y + 1 = min (y + 1) R by omega] at hp
          exact ⟨y + 1, _, by omega, by go_num, rfl, hp, B5.out.trans (hb1.mono (by omega))⟩
        case measure => simp [intOf]; omega
      · go_wp2_with fail
        refine (size_any _ 0 _ (by omega) (fun j hj => absurd hj (Nat.not_lt_zero _)) (.inr ?_)).mono ?_
        · rw [HG.out 0 (by omega), if_neg (by omega)]
        rintro e w4 ⟨rfl, b4⟩
        have O4 := hide (ownMat_below O3.out b4)
        have B4 := hide (B3.out.trans (b4.mono (by omega)))
        have hs4 := b4.size
        clear b4
        go_wp2
        go_roundw
        case rel =>
          have hp := ownMat_mono (hi' := w4.heap.size) O4.out (Nat.le_refl _) (by omega)
          rw [show min y R = min (y + 1) R by omega] at hp
          exact ⟨y + 1, _, by omega, by go_num, rfl, hp, B4.out⟩
        case measure => simp [intOf]; omega
    · have hmin : min y R = R := by omega
      rw [hmin] at HO
      clear hmin
      go_wp2
      go_ret
      exact ⟨_, rfl, HO.out, HB.out⟩
end Go.Proofs.Ytjnnoabaepmcnaa
/-
  The program's images: cell, count, transposed, inverted, distance.
-/
namespace Go.Proofs.Ytjnnoabaepmcnaa
open Go.RowKit

theorem row_below {w wr w2 w3 : World} (hb : Below w.heap.size w wr) (b2 : Below wr.heap.size wr w2) (g3 : w2.grownBy w3 (some wr.heap.size)) : Below w.heap.size w w3 :=
  hb.trans ((b2.mono hb.size).trans (grown_below g3 (fun k hk => by cases hk; exact hb.size) (Nat.le_trans hb.size b2.size)))
theorem row_blk {wr w2 w3 : World} {g n : Nat} {T : TypeId} {F : Nat → Int} (h : Blk wr g T n F) (b2 : Below wr.heap.size wr w2) (g3 : w2.grownBy w3 (some wr.heap.size)) : Blk w3 g T n F :=
  blk_grown (blk_below h b2) g3 (by have := blk_lt h; simp; omega)

set_option maxHeartbeats 1000000 in
theorem count_any (F : Nat → Int) (c : Int) (w : World) :
    Calls Try.prog 31 #[.agg (vec 25 F), .int .i64 c] w fun e w' => e = .returned (.int .i64 (cnt (fun i => F i == c) 25)) ∧ Below w.heap.size w w' := by
  obtain ⟨p, hp⟩ : ∃ p : Nat → Bool, p = fun i => F i == c := ⟨_, rfl⟩
  have hpp : Hid (∀ i, p i = (F i == c)) := hide fun i => by rw [hp]
  rw [← hp]
  clear hp
  go_enter Try.func31, Try.ntmps31
  go_wp2_with (first | (with_reducible refine wpList_boxVec 25 F 2 rfl rfl (.tmp 0) rfl rfl ?_; intro w1 h1 b1 s1) | (with_reducible refine wpList_loadVec h1 10 rfl rfl _ rfl rfl Try.underlying56 Try.sizeImg ?_))
  have B1 := hide b1
  clear h1 b1 s1
  go_loopw [5, 11] (fun n i w' => ∃ y : Nat, y ≤ 5 ∧ i = .int .i64 y ∧ n = .int .i64 (cnt p (5 * y)) ∧ Below w.heap.size w w') (fun _ i _ => 5 - (intOf i).toNat)
  case atStart => exact ⟨0, by omega, rfl, rfl, B1.out⟩
  case round =>
    clear B1
    obtain ⟨y, hy, rfl, rfl, hb⟩ := hrel
    have HB := hide hb
    clear hb
    by_cases hlt : y < 5
    · have hyI : (y : Int) < 5 := by omega
      go_wp2_with (first | (with_reducible refine wpList_indexRow y 13 rfl rfl _ _ rfl rfl rfl Try.underlying56 Try.isAgg54 Try.sizeOf54 hlt (by omega) ?_) | (with_reducible refine wpList_allocVec 5 7 rfl rfl rfl Try.zeroRow ?_; intro w2 h2 b2 s2) | (with_reducible refine wpList_storeVec h2 rfl (.tmp 7) (.tmp 13) rfl rfl rfl Try.sizeRow ?_; intro w3 h3 g3 s3) | (with_reducible refine wpList_loadVec h3 14 rfl rfl _ rfl rfl Try.underlying54 Try.sizeRow ?_))
      have B3 := hide (row_below HB.out b2 g3)
      clear h2 b2 s2 h3 g3 s3
      go_loopw [5, 15] (fun n i w' => ∃ x : Nat, x ≤ 5 ∧ i = .int .i64 x ∧ n = .int .i64 (cnt p (5 * y + x)) ∧ Below w.heap.size w w') (fun _ i _ => 5 - (intOf i).toNat)
      case atStart => exact ⟨0, by omega, rfl, rfl, B3.out⟩
      case round =>
        clear B3 HB
        obtain ⟨x, hx, rfl, rfl, hb⟩ := hrel
        have HB := hide hb
        clear hb
        have hle := cnt_le p (5 * y + x)
        by_cases hlx : x < 5
        · have hxI : (x : Int) < 5 := by omega
          have HA : Hid (y * 5 + x = 5 * y + x) := hide (by omega)
          by_cases hc : F (5 * y + x) = c
          · have HC := hide (cnt_yes (p := p) (k := 5 * y + x) (by rw [hpp.out]; simpa using hc))
            have hcb : (F (5 * y + x) == c) = true := by simpa using hc
            clear hc
            go_wp2_with ((with_reducible refine wpList_indexVec x 17 rfl rfl _ _ rfl rfl rfl Try.underlying54 Try.isAgg3 Try.sizeOf3 hlx ?_; rw [HA.out]))
            go_roundw
            case rel => exact ⟨x + 1, by omega, by go_num, by rw [← Nat.add_assoc, HC.out]; go_num, HB.out⟩
            case measure => simp [intOf]; omega
          · have HC := hide (cnt_no (p := p) (k := 5 * y + x) (by rw [hpp.out]; simpa using hc))
            have hcb : (F (5 * y + x) == c) = false := by simpa using hc
            clear hc
            go_wp2_with ((with_reducible refine wpList_indexVec x 17 rfl rfl _ _ rfl rfl rfl Try.underlying54 Try.isAgg3 Try.sizeOf3 hlx ?_; rw [HA.out]))
            go_roundw
            case rel => exact ⟨x + 1, by omega, by go_num, by rw [← Nat.add_assoc, HC.out], HB.out⟩
            case measure => simp [intOf]; omega
        · obtain rfl : x = 5 := by omega
          go_wp2
          go_roundw
          case rel => exact ⟨y + 1, by omega, by go_num, by rw [show 5 * (y + 1) = 5 * y + 5 by omega], HB.out⟩
          case measure => simp [intOf]; omega
    · obtain rfl : y = 5 := by omega
      go_wp2
      go_ret
      exact ⟨rfl, HB.out⟩

/-- The first y columns of the exchanged image, and x cells of the next one. -/
def upT (F : Nat → Int) (y x : Nat) (i : Nat) : Int := if i % 5 < y ∨ (i % 5 = y ∧ i / 5 < x) then F (5 * (i % 5) + i / 5) else 0
theorem upT_zero (F : Nat → Int) : upT F 0 0 = fun _ => 0 := by funext i; rw [upT, if_neg (by omega)]
theorem upT_set (F : Nat → Int) (y x : Nat) (hy : y < 5) : (fun j => if j = 5 * x + y then F (5 * y + x) else upT F y x j) = upT F y (x + 1) := by
  funext j
  simp only [upT]
  by_cases e : j = 5 * x + y
  · subst e
    rw [if_pos rfl, if_pos (by omega), show (5 * x + y) % 5 = y by omega, show (5 * x + y) / 5 = x by omega]
  · rw [if_neg e]
    by_cases hl : j % 5 < y ∨ (j % 5 = y ∧ j / 5 < x)
    · rw [if_pos hl, if_pos (by omega)]
    · rw [if_neg hl, if_neg (by omega)]
theorem upT_next (F : Nat → Int) (y : Nat) : ∀ i, i < 25 → upT F y 5 i = upT F (y + 1) 0 i := fun i hi => by
  simp only [upT]
  by_cases hl : i % 5 < y + 1
  · rw [if_pos (by omega), if_pos (by omega)]
  · rw [if_neg (by omega), if_neg (by omega)]
theorem upT_all (F : Nat → Int) : ∀ i, i < 25 → upT F 5 0 i = F (5 * (i % 5) + i / 5) := fun i hi => by rw [upT, if_pos (by omega)]

set_option maxHeartbeats 1000000 in
theorem transposed_any (F : Nat → Int) (w : World) :
    Calls Try.prog 45 #[.agg (vec 25 F)] w fun e w' => e = .returned (.agg (vec 25 fun i => F (5 * (i % 5) + i / 5))) ∧ Below w.heap.size w w' := by
  go_enter Try.func45, Try.ntmps45
  go_wp2_with (first | (with_reducible refine wpList_boxVec 25 F 1 rfl rfl (.tmp 0) rfl rfl ?_; intro w1 h1 b1 s1) | (with_reducible refine wpList_allocVec 25 2 rfl rfl rfl Try.zeroImg ?_; intro wa ha ba sa) | (with_reducible refine wpList_allocVec 25 3 rfl rfl rfl Try.zeroImg ?_; intro wb hb bb sb) | (with_reducible refine wpList_loadVec (blk_below (blk_below h1 ba) bb) 8 rfl rfl _ rfl rfl Try.underlying56 Try.sizeImg ?_))
  have B1 := hide (b1.trans ((ba.mono (by omega)).trans (bb.mono (by omega))))
  have HR := hide (blk_below ha bb)
  have HP := hide hb
  have hsz : w.heap.size + 2 < wb.heap.size := by omega
  rw [s1] at HR sa
  rw [sa] at HP
  rw [show w.heap.size + 1 + 1 = w.heap.size + 2 by omega] at HP
  clear h1 b1 ha ba hb bb sb s1 sa
  go_loopw [9] (fun i w' => ∃ y : Nat, y ≤ 5 ∧ i = .int .i64 y ∧ Blk w' (w.heap.size + 2) 56 25 (upT F y 0) ∧ Blk w' (w.heap.size + 1) 56 25 (fun _ => 0) ∧ Below w.heap.size w w') (fun i _ => 5 - (intOf i).toNat)
  case atStart => exact ⟨0, by omega, rfl, by rw [upT_zero]; exact HP.out, HR.out, B1.out⟩
  case round =>
    clear B1 HP HR hsz
    obtain ⟨y, hy, rfl, hp, hr, hb⟩ := hrel
    have HP := hide hp; have HR := hide hr; have HB := hide hb
    clear hp hr hb
    by_cases hlt : y < 5
    · have hyI : (y : Int) < 5 := by omega
      go_wp2_with (first | (with_reducible refine wpList_indexRow y 12 rfl rfl _ _ rfl rfl rfl Try.underlying56 Try.isAgg54 Try.sizeOf54 hlt (by omega) ?_) | (with_reducible refine wpList_allocVec 5 5 rfl rfl rfl Try.zeroRow ?_; intro w2 h2 b2 s2) | (with_reducible refine wpList_storeVec h2 rfl (.tmp 5) (.tmp 12) rfl rfl rfl Try.sizeRow ?_; intro w3 h3 g3 s3) | (with_reducible refine wpList_loadVec h3 13 rfl rfl _ rfl rfl Try.underlying54 Try.sizeRow ?_))
      have B3 := hide (row_below HB.out b2 g3)
      have P3 := hide (row_blk HP.out b2 g3)
      have R3 := hide (row_blk HR.out b2 g3)
      clear h2 b2 s2 h3 g3 s3
      go_loopw [14] (fun i w' => ∃ x : Nat, x ≤ 5 ∧ i = .int .i64 x ∧ Blk w' (w.heap.size + 2) 56 25 (upT F y x) ∧ Blk w' (w.heap.size + 1) 56 25 (fun _ => 0) ∧ Below w.heap.size w w') (fun i _ => 5 - (intOf i).toNat)
      case atStart => exact ⟨0, by omega, rfl, P3.out, R3.out, B3.out⟩
      case round =>
        clear B3 P3 R3 HB HP HR
        obtain ⟨x, hx, rfl, hp, hr, hb⟩ := hrel
        have HP := hide hp; have HR := hide hr; have HB := hide hb
        clear hp hr hb
        by_cases hlx : x < 5
        · have hxI : (x : Int) < 5 := by omega
          have HS := hide (upT_set F y x hlt)
          have hcl := blk_cell HP.out (5 * x + y) (by omega)
          have hfr := blk_frozen HP.out (5 * x + y)
          have HA : Hid (0 + x * 5 + y * 1 = 5 * x + y) := hide (by omega)
          have HE : Hid (y * 5 + x = 5 * y + x) := hide (by omega)
          go_wp2_with (first | (with_reducible refine wpList_indexVec x 17 rfl rfl _ _ rfl rfl rfl Try.underlying54 Try.isAgg3 Try.sizeOf3 hlx ?_; rw [HE.out]) | (with_reducible refine wpList_indexAt x 21 rfl rfl _ _ rfl rfl rfl Try.underlying56 Try.sizeOf54 hlx ?_) | (with_reducible refine wpList_indexAt y 22 rfl rfl _ _ rfl rfl rfl Try.underlying54 Try.sizeOf3 hlt ?_; rw [HA.out]))
          go_roundw
          case rel => exact ⟨x + 1, by omega, by go_num, by have := blk_set HP.out (5 * x + y) (F (5 * y + x)); rw [HS.out] at this; exact this, blk_other HR.out _ _ (by simp), HB.out.setCell (by show w.heap.size ≤ w.heap.size + 2; omega) _⟩
          case measure => simp [intOf]; omega
        · obtain rfl : x = 5 := by omega
          go_wp2
          go_roundw
          case rel => exact ⟨y + 1, by omega, by go_num, blk_congr HP.out (upT_next F y), HR.out, HB.out⟩
          case measure => simp [intOf]; omega
    · obtain rfl : y = 5 := by omega
      have HP := hide (blk_congr HP.out (upT_all F))
      go_wp2_with (first | (with_reducible refine wpList_loadVec HP.out 25 rfl rfl _ rfl rfl Try.underlying56 Try.sizeImg ?_) | (with_reducible refine wpList_storeVec HR.out rfl (.tmp 2) (.tmp 25) rfl rfl rfl Try.sizeImg ?_; intro w4 h4 g4 s4))
      refine bodyPost_ret (results_vec rfl _ _ (w.heap.size + 1) 25 _ 56 _ _ rfl h4 Try.underlying56 Try.sizeImg) rfl ⟨rfl, ?_⟩
      exact HB.out.trans (grown_below g4 (fun k hk => by cases hk; exact Nat.le_succ _) HB.out.size)
end Go.Proofs.Ytjnnoabaepmcnaa
/-
  The program's images: inverted, distance, mirrored.
-/
namespace Go.Proofs.Ytjnnoabaepmcnaa
open Go.RowKit

def invN (v : Int) : Int := if v = -1 then -1 else 1 - v
def upI (F : Nat → Int) (k : Nat) (i : Nat) : Int := if i < k then invN (F i) else F i
theorem upI_zero (F : Nat → Int) : upI F 0 = F := by funext i; simp [upI]
theorem upI_set (F : Nat → Int) (k : Nat) (v : Int) (h : invN (F k) = v) : (fun j => if j = k then v else upI F k j) = upI F (k + 1) := by
  funext j
  simp only [upI]
  by_cases e : j = k
  · subst e; simp [h]
  · rw [if_neg e]
    by_cases hl : j < k
    · rw [if_pos hl, if_pos (by omega)]
    · rw [if_neg hl, if_neg (by omega)]
theorem upI_skip (F : Nat → Int) (k : Nat) (h : F k = -1) : upI F k = upI F (k + 1) := by
  funext j
  simp only [upI]
  by_cases hl : j < k
  · rw [if_pos hl, if_pos (by omega)]
  · by_cases e : j = k
    · subst e; simp [h, invN]
    · rw [if_neg hl, if_neg (by omega)]
theorem upI_all (F : Nat → Int) : ∀ i, i < 25 → upI F (5 * 5) i = invN (F i) := fun i hi => by rw [upI, if_pos (by omega)]

/-- What distance answers: the number, and whether the sizes are the same. -/
def DistRes (b : Bool) (n : Nat) (w : World) (e : Ending) (w' : World) : Prop := e = .returned (.tuple #[.int .i64 (if b then n else 0 : Nat), .bool b]) ∧ Below w.heap.size w w'
theorem dist_no {b : Bool} {n : Nat} {w : World} {w' : World} (hb : b = false) (h : Below w.heap.size w w') : DistRes b n w (.returned (.tuple #[.int .i64 0, .bool false])) w' := by subst hb; exact ⟨rfl, h⟩
/-- Numbers put over others, from place o on. -/
def overF (F : Nat → Int) (o : Nat) (r : List Int) (j : Nat) : Int := if o ≤ j ∧ j < o + r.length then r.getD (j - o) 0 else F j
theorem blk_setCells {g n : Nat} {T : TypeId} : ∀ (r : List Int) (o : Nat) (w : World) (F : Nat → Int), Blk w g T n F → Blk (w.setCells g o (ints r)) g T n (overF F o r) ∧ w.grownBy (w.setCells g o (ints r)) (some g) ∧ (w.setCells g o (ints r)).heap.size = w.heap.size
  | [], o, w, F, h => ⟨blk_congr h fun i _ => by simp only [overF, List.length_nil]; rw [if_neg (by omega)], ⟨rfl, rfl, rfl, Nat.le_refl _, fun _ _ _ => rfl⟩, rfl⟩
  | x :: r, o, w, F, h => by
    have h1 := blk_set h o x
    obtain ⟨h2, h3, h4⟩ := blk_setCells r (o + 1) _ _ h1
    refine ⟨blk_congr h2 fun i _ => ?_, ?_, ?_⟩
    · simp only [overF, List.length_cons]
      by_cases e : i = o
      · subst e; rw [if_neg (by omega), if_pos rfl, if_pos (by omega), Nat.sub_self]; rfl
      · by_cases hl : o + 1 ≤ i ∧ i < o + 1 + r.length
        · rw [if_pos hl, if_pos (by omega), show i - o = (i - (o + 1)) + 1 by omega]; rfl
        · rw [if_neg hl, if_neg e, if_neg (by omega)]
    · refine grown_trans (b := w.setCell ⟨g, o, none⟩ (.int .i64 x)) ⟨rfl, rfl, rfl, by simp [World.setCell], fun k _ hr => heap_setCell_other w _ k _ fun e => hr (by rw [e])⟩ h3
    · show ((w.setCell ⟨g, o, none⟩ (.int .i64 x)).setCells g (o + 1) (ints r)).heap.size = w.heap.size
      rw [h4]; simp [World.setCell]
theorem vec_ints (n : Nat) (F : Nat → Int) : vecL n F = ints (rowF n F) := by simp [vecL, ints, rowF]

/-- A row goes into the middle of a variable. -/
theorem wpList_storeMid {P : Program} {ops : Array Oper} {rest : List Oper} {o : Oper} {a : Act} {Q : Exit → Act → World → Prop} {W : World} {g b n s : Nat} {T T' : TypeId} {F G : Nat → Int} (hb : Blk W g T n F)
    (hgd : o.guard = none) (x y : Operand) (ho : o.op = .store T' x y) (hx : a.eval x = .pointer (some ⟨g, b, none⟩)) (hy : a.eval y = .agg (vec s G)) (hi : (P.info? T').map (·.size) = some s) (hn : b + s ≤ n)
    (h : ∀ w', Blk w' g T n (fun j => if b ≤ j ∧ j < b + s then G (j - b) else F j) → W.grownBy w' (some g) → w'.heap.size = W.heap.size → wpList P ops Q rest (a.put o.dst undef) w') : wpList P ops Q (o :: rest) a W := by
  refine wpList_store_mid hgd T' x y ho g b (vec s G) hx hy (fun j hj => ?_) (by rw [hi, vec_size]) (vec_one s G) ?_
  · rw [vec_size] at hj
    exact ⟨by rw [blk_cell hb (b + j) (by omega)]; rfl, blk_frozen hb _⟩
  · have e : (vec s G).toList = ints (rowF s G) := by rw [← vec_ints]; rfl
    obtain ⟨h1, h2, h3⟩ := blk_setCells (rowF s G) b W F hb
    rw [e]
    refine h _ (blk_congr h1 fun i _ => ?_) h2 h3
    simp only [overF, rowF_len]
    by_cases hl : b ≤ i ∧ i < b + s
    · rw [if_pos hl, if_pos hl, List.getD_eq_getElem?_getD, List.getElem?_eq_getElem (by rw [rowF_len]; omega), Option.getD_some, rowF_at]
    · rw [if_neg hl, if_neg hl]

def mirR (n : Nat) (G : Nat → Int) (j : Nat) : Int := if j < n then G (n - 1 - j) else G j
end Go.Proofs.Ytjnnoabaepmcnaa
/-
  The program's images: mirrored; the exported functions.
-/
namespace Go.Proofs.Ytjnnoabaepmcnaa
open Go.RowKit

def mirM (C : Nat) (f : Nat → Nat → Int) (y x : Nat) : Int := f y (C - 1 - x)
def upMir (R C : Nat) (f : Nat → Nat → Int) (y : Nat) (i : Nat) : Int := if i / 5 < y then imgF R C (mirM C f) i else imgF R C f i
theorem upMir_zero (R C : Nat) (f : Nat → Nat → Int) : upMir R C f 0 = imgF R C f := by funext i; simp [upMir]
theorem upMir_all (R C : Nat) (f : Nat → Nat → Int) : ∀ i, i < 25 → upMir R C f 5 i = imgF R C (mirM C f) i := fun i hi => by rw [upMir, if_pos (by omega)]
theorem upMir_step (R C : Nat) (f : Nat → Nat → Int) (y n : Nat) (hC : C ≤ 5) (hn : n = if y < R then C else 0) : ∀ i, i < 25 →
    (if 0 + y * 5 ≤ i ∧ i < 0 + y * 5 + 5 then mirR n (fun j => imgF R C f (y * 5 + j)) (i - (0 + y * 5)) else upMir R C f y i) = upMir R C f (y + 1) i := fun i hi => by
  by_cases hl : 0 + y * 5 ≤ i ∧ i < 0 + y * 5 + 5
  · rw [if_pos hl, upMir, if_pos (by omega)]
    simp only [mirR, imgF]
    have e1 : i / 5 = y := by omega
    have e2 : i - (0 + y * 5) = i % 5 := by omega
    rw [e1, e2]
    by_cases hy : y < R
    · rw [if_pos hy] at hn
      subst hn
      by_cases hx : i % 5 < n
      · rw [if_pos hx, if_pos (by omega), if_pos ⟨hy, hx⟩, mirM, show (y * 5 + (n - 1 - i % 5)) / 5 = y by omega, show (y * 5 + (n - 1 - i % 5)) % 5 = n - 1 - i % 5 by omega]
      · rw [if_neg hx, if_neg (by omega), if_neg (by omega)]
    · rw [if_neg hy] at hn
      subst hn
      rw [if_neg (by omega), if_neg (by omega), if_neg (by omega)]
  · rw [if_neg hl, upMir, upMir]
    by_cases h2 : i / 5 < y
    · rw [if_pos h2, if_pos (by omega)]
    · rw [if_neg h2, if_neg (by omega)]

end Go.Proofs.Ytjnnoabaepmcnaa
/-
  The program's exported functions on images.
-/
namespace Go.Proofs.Ytjnnoabaepmcnaa
open Go.RowKit

def trM (f : Nat → Nat → Int) (y x : Nat) : Int := f x y
def invM (f : Nat → Nat → Int) (y x : Nat) : Int := 1 - f y x
theorem img_tr {R C : Nat} {f : Nat → Nat → Int} (h : Img R C f) : Img C R (trM f) := ⟨h.c1, h.c2, h.r1, h.r2, fun y x hy hx => h.cell x y hx hy⟩
theorem img_mir {R C : Nat} {f : Nat → Nat → Int} (h : Img R C f) : Img R C (mirM C f) := ⟨h.r1, h.r2, h.c1, h.c2, fun y x hy hx => h.cell y (C - 1 - x) hy (by omega)⟩
theorem img_inv {R C : Nat} {f : Nat → Nat → Int} (h : Img R C f) : Img R C (invM f) := ⟨h.r1, h.r2, h.c1, h.c2, fun y x hy hx => by rcases h.cell y x hy hx with e | e <;> simp [invM, e]⟩
theorem transposed_img (R C : Nat) (f : Nat → Nat → Int) (w : World) (_hI : Img R C f) :
    Calls Try.prog 45 #[.agg (vec 25 (imgF R C f))] w fun e w' => e = .returned (.agg (vec 25 (imgF C R (trM f)))) ∧ Below w.heap.size w w' := by
  rw [← vec_congr (n := 25) (F := fun i => imgF R C f (5 * (i % 5) + i / 5)) (G := imgF C R (trM f)) fun i hi => ?_]
  · exact transposed_any _ _
  · simp only [imgF, trM, show (5 * (i % 5) + i / 5) / 5 = i % 5 by omega, show (5 * (i % 5) + i / 5) % 5 = i / 5 by omega]
    by_cases h : i % 5 < R ∧ i / 5 < C
    · rw [if_pos h, if_pos ⟨h.2, h.1⟩]
    · rw [if_neg h, if_neg fun e => h ⟨e.2, e.1⟩]
set_option maxHeartbeats 400000 in
theorem implTransposeOf_no (v : Value) (m : List (List Int)) (w : World) (hin : InMat w v m) (h : okB m = false) :
    Calls Try.prog 18 #[v] w (MatRes [] w) := by
  have HI := hide hin; have H := hide h
  clear hin h
  go_enter Try.func18, Try.ntmps18
  go_wp2_with fail
  refine (imageOf_no v m _ HI.out H.out).mono ?_
  rintro e w1 ⟨rfl, b1⟩
  have B1 := hide b1
  clear b1
  go_wp2_with (first | (with_reducible refine wpList_allocVec 25 3 rfl rfl rfl Try.zeroImg ?_; intro wa ha ba sa) | (with_reducible refine wpList_storeVec ha rfl (.tmp 3) (.tmp 8) rfl rfl rfl Try.sizeImg ?_; intro wb hb gb sb) | (with_reducible refine wpList_loadVec hb 12 rfl rfl _ rfl rfl Try.underlying56 Try.sizeImg ?_))
  go_ret
  exact matRes_nil (B1.out.trans ((ba.mono B1.out.size).trans (grown_below gb (fun k hk => by cases hk; exact B1.out.size) (by have := B1.out.size; omega))))
set_option maxHeartbeats 400000 in
theorem implTransposeOf_yes (v : Value) (R C : Nat) (f : Nat → Nat → Int) (w : World) (hin : InMat w v (mkM R C f)) (hI : Img R C f) :
    Calls Try.prog 18 #[v] w (MatRes (mkM C R (trM f)) w) := by
  have HI := hide hin; have H := hide hI
  clear hin hI
  go_enter Try.func18, Try.ntmps18
  go_wp2_with fail
  refine (imageOf_yes v R C f _ HI.out H.out).mono ?_
  rintro e w1 ⟨rfl, b1⟩
  have B1 := hide b1
  clear b1
  go_wp2_with (first | (with_reducible refine wpList_allocVec 25 3 rfl rfl rfl Try.zeroImg ?_; intro wa ha ba sa) | (with_reducible refine wpList_storeVec ha rfl (.tmp 3) (.tmp 8) rfl rfl rfl Try.sizeImg ?_; intro wb hb gb sb) | (with_reducible refine wpList_loadVec hb 12 rfl rfl _ rfl rfl Try.underlying56 Try.sizeImg ?_))
  have B2 := hide (B1.out.trans ((ba.mono B1.out.size).trans (grown_below gb (fun k hk => by cases hk; exact B1.out.size) (by have := B1.out.size; omega))))
  clear ha ba sa hb gb sb
  refine (transposed_img R C f _ H.out).mono ?_
  rintro e w3 ⟨rfl, b3⟩
  have B3 := hide (B2.out.trans (b3.mono B2.out.size))
  clear b3
  go_wp2_with fail
  refine (lists_any C R (trM f) _ (img_tr H.out)).mono ?_
  rintro e w4 ⟨v4, rfl, o4, b4⟩
  have O4 := hide (ownMat_mono o4 B3.out.size (Nat.le_refl _)); have B4 := hide (B3.out.trans (b4.mono B3.out.size))
  clear o4 b4
  go_wp2
  go_ret
  exact ⟨_, rfl, O4.out, B4.out⟩

set_option maxHeartbeats 400000 in
theorem implCountBlack_no (v : Value) (m : List (List Int)) (w : World) (hin : InMat w v m) (h : okB m = false) :
    Calls Try.prog 7 #[v] w fun e w' => e = .returned (.int .i64 (-1)) ∧ Below w.heap.size w w' := by
  have HI := hide hin; have H := hide h
  clear hin h
  go_enter Try.func7, Try.ntmps7
  go_wp2_with fail
  refine (imageOf_no v m _ HI.out H.out).mono ?_
  rintro e w1 ⟨rfl, b1⟩
  have B1 := hide b1
  clear b1
  go_wp2_with (first | (with_reducible refine wpList_allocVec 25 3 rfl rfl rfl Try.zeroImg ?_; intro wa ha ba sa) | (with_reducible refine wpList_storeVec ha rfl (.tmp 3) (.tmp 8) rfl rfl rfl Try.sizeImg ?_; intro wb hb gb sb) | (with_reducible refine wpList_loadVec hb 12 rfl rfl _ rfl rfl Try.underlying56 Try.sizeImg ?_))
  go_ret
  exact ⟨rfl, B1.out.trans ((ba.mono B1.out.size).trans (grown_below gb (fun k hk => by cases hk; exact B1.out.size) (by have := B1.out.size; omega)))⟩
set_option maxHeartbeats 400000 in
theorem implCountBlack_yes (v : Value) (R C : Nat) (f : Nat → Nat → Int) (w : World) (hin : InMat w v (mkM R C f)) (hI : Img R C f) :
    Calls Try.prog 7 #[v] w fun e w' => e = .returned (.int .i64 (cnt (fun i => imgF R C f i == 1) 25)) ∧ Below w.heap.size w w' := by
  have HI := hide hin; have H := hide hI
  clear hin hI
  go_enter Try.func7, Try.ntmps7
  go_wp2_with fail
  refine (imageOf_yes v R C f _ HI.out H.out).mono ?_
  rintro e w1 ⟨rfl, b1⟩
  have B1 := hide b1
  clear b1
  go_wp2_with (first | (with_reducible refine wpList_allocVec 25 3 rfl rfl rfl Try.zeroImg ?_; intro wa ha ba sa) | (with_reducible refine wpList_storeVec ha rfl (.tmp 3) (.tmp 8) rfl rfl rfl Try.sizeImg ?_; intro wb hb gb sb) | (with_reducible refine wpList_loadVec hb 12 rfl rfl _ rfl rfl Try.underlying56 Try.sizeImg ?_))
  have B2 := hide (B1.out.trans ((ba.mono B1.out.size).trans (grown_below gb (fun k hk => by cases hk; exact B1.out.size) (by have := B1.out.size; omega))))
  clear ha ba sa hb gb sb
  refine (count_any (imgF R C f) 1 _).mono ?_
  rintro e w3 ⟨rfl, b3⟩
  have B3 := hide (B2.out.trans (b3.mono B2.out.size))
  clear b3
  go_wp2
  go_ret
  exact ⟨rfl, B3.out⟩

/-- The cell of a valid image, or -1. -/
def atM (R C : Nat) (f : Nat → Nat → Int) (y x : Int) : Int := if 0 ≤ y ∧ y < R ∧ 0 ≤ x ∧ x < C then f y.toNat x.toNat else -1
theorem img_zero {R C : Nat} (hR : 1 ≤ R ∧ R ≤ 5) (hC : 1 ≤ C ∧ C ≤ 5) : Img R C zeroM := ⟨hR.1, hR.2, hC.1, hC.2, fun _ _ _ _ => .inl rfl⟩
theorem whiteImage_img (R C : Nat) (w : World) :
    Calls Try.prog 61 #[.int .i64 R, .int .i64 C] w fun e w' => e = .returned (.agg (vec 25 (imgF R C zeroM))) ∧ Below w.heap.size w w' := by
  rw [← vec_congr (n := 25) (F := whiteF R C) (G := imgF R C zeroM) fun i hi => ?_]
  · exact whiteImage_any _ _ _
  · simp only [whiteF, imgF, zeroM]
    by_cases h : i / 5 < R ∧ i % 5 < C
    · rw [if_pos h, if_neg (by omega)]
    · rw [if_neg h, if_pos (by omega)]
end Go.Proofs.Ytjnnoabaepmcnaa
/-
  The model's functions on images.
-/
namespace Go.Proofs.Ytjnnoabaepmcnaa
open Go.RowKit

def inM (m : List (List Int)) (y x : Int) : Bool := okB m && decide (0 ≤ y ∧ y < m.length) && decide (0 ≤ x ∧ x < widthM m)
theorem cnt_row {R C : Nat} {f : Nat → Nat → Int} (p : Nat → Bool) (hp : ∀ i, imgF R C f i = -1 → p i = false) (y : Nat) (hC : C ≤ 5) : cnt p (5 * (y + 1)) = cnt p (5 * y + C) :=
  cnt_skip (by omega) fun i h1 h2 => hp i (by rw [imgF, if_neg (by omega)])
theorem cnt_end {R C : Nat} {f : Nat → Nat → Int} (p : Nat → Bool) (hp : ∀ i, imgF R C f i = -1 → p i = false) (hR : R ≤ 5) : cnt p 25 = cnt p (5 * R) :=
  cnt_skip (by omega) fun i h1 h2 => hp i (by rw [imgF, if_neg (by omega)])
end Go.Proofs.Ytjnnoabaepmcnaa
/-
  TransposeOf, MirrorOf, InvertOf of the model.
-/
namespace Go.Proofs.Ytjnnoabaepmcnaa
open Go.RowKit
set_option linter.unusedVariables false

def upTr (C : Nat) (f : Nat → Nat → Int) (y x a b : Nat) : Int := if b < y ∨ (b = y ∧ a < x) then f b a else 0
theorem upTr_zero (R C : Nat) (f : Nat → Nat → Int) : mkM C R zeroM = mkM C R (upTr C f 0 0) := mkM_congr fun a b ha hb => by rw [upTr, if_neg (by omega)]; rfl
theorem upTr_set (R C : Nat) (f : Nat → Nat → Int) (y x : Nat) (hy : y < R) (hx : x < C) (z : Int) (hz : f y x = z) :
    mkM C R (fun a b => if a = x ∧ b = y then z else upTr C f y x a b) = mkM C R (upTr C f y (x + 1)) := mkM_congr fun a b ha hb => by
  simp only [upTr]
  by_cases e : a = x ∧ b = y
  · obtain ⟨rfl, rfl⟩ := e
    rw [if_pos ⟨rfl, rfl⟩, if_pos (by omega), ← hz]
  · rw [if_neg e]
    by_cases hl : b < y ∨ (b = y ∧ a < x)
    · rw [if_pos hl, if_pos (by omega)]
    · rw [if_neg hl, if_neg (by omega)]
theorem upTr_next (R C : Nat) (f : Nat → Nat → Int) (y : Nat) (hy : y < R) : mkM C R (upTr C f y C) = mkM C R (upTr C f (y + 1) 0) := mkM_congr fun a b ha hb => by
  simp only [upTr]
  by_cases hl : b < y + 1
  · rw [if_pos (by omega), if_pos (by omega)]
  · rw [if_neg (by omega), if_neg (by omega)]
theorem upTr_all (R C : Nat) (f : Nat → Nat → Int) : mkM C R (upTr C f R 0) = mkM C R (trM f) := mkM_congr fun a b ha hb => by
  rw [upTr, if_pos (by omega)]; rfl
def upMi (C : Nat) (f : Nat → Nat → Int) (y x a b : Nat) : Int := if a < y ∨ (a = y ∧ C - 1 - b < x) then f a (C - 1 - b) else 0
theorem upMi_zero (R C : Nat) (f : Nat → Nat → Int) : mkM R C zeroM = mkM R C (upMi C f 0 0) := mkM_congr fun a b ha hb => by rw [upMi, if_neg (by omega)]; rfl
theorem upMi_set (R C : Nat) (f : Nat → Nat → Int) (y x : Nat) (hy : y < R) (hx : x < C) (z : Int) (hz : f y x = z) :
    mkM R C (fun a b => if a = y ∧ b = C - 1 - x then z else upMi C f y x a b) = mkM R C (upMi C f y (x + 1)) := mkM_congr fun a b ha hb => by
  simp only [upMi]
  by_cases e : a = y ∧ b = C - 1 - x
  · obtain ⟨rfl, rfl⟩ := e
    rw [if_pos ⟨rfl, rfl⟩, if_pos (by omega), ← hz]; rw [show C - 1 - (C - 1 - x) = x by omega]
  · rw [if_neg e]
    by_cases hl : a < y ∨ (a = y ∧ C - 1 - b < x)
    · rw [if_pos hl, if_pos (by omega)]
    · rw [if_neg hl, if_neg (by omega)]
theorem upMi_next (R C : Nat) (f : Nat → Nat → Int) (y : Nat) (hy : y < R) : mkM R C (upMi C f y C) = mkM R C (upMi C f (y + 1) 0) := mkM_congr fun a b ha hb => by
  simp only [upMi]
  by_cases hl : a < y + 1
  · rw [if_pos (by omega), if_pos (by omega)]
  · rw [if_neg (by omega), if_neg (by omega)]
theorem upMi_all (R C : Nat) (f : Nat → Nat → Int) : mkM R C (upMi C f R 0) = mkM R C (mirM C f) := mkM_congr fun a b ha hb => by
  rw [upMi, if_pos (by omega)]; rfl
def upIn (C : Nat) (f : Nat → Nat → Int) (y x a b : Nat) : Int := if a < y ∨ (a = y ∧ b < x) then 1 - f a b else 0
theorem upIn_zero (R C : Nat) (f : Nat → Nat → Int) : mkM R C zeroM = mkM R C (upIn C f 0 0) := mkM_congr fun a b ha hb => by rw [upIn, if_neg (by omega)]; rfl
theorem upIn_set (R C : Nat) (f : Nat → Nat → Int) (y x : Nat) (hy : y < R) (hx : x < C) (z : Int) (hz : 1 - f y x = z) :
    mkM R C (fun a b => if a = y ∧ b = x then z else upIn C f y x a b) = mkM R C (upIn C f y (x + 1)) := mkM_congr fun a b ha hb => by
  simp only [upIn]
  by_cases e : a = y ∧ b = x
  · obtain ⟨rfl, rfl⟩ := e
    rw [if_pos ⟨rfl, rfl⟩, if_pos (by omega), ← hz]
  · rw [if_neg e]
    by_cases hl : a < y ∨ (a = y ∧ b < x)
    · rw [if_pos hl, if_pos (by omega)]
    · rw [if_neg hl, if_neg (by omega)]
theorem upIn_next (R C : Nat) (f : Nat → Nat → Int) (y : Nat) (hy : y < R) : mkM R C (upIn C f y C) = mkM R C (upIn C f (y + 1) 0) := mkM_congr fun a b ha hb => by
  simp only [upIn]
  by_cases hl : a < y + 1
  · rw [if_pos (by omega), if_pos (by omega)]
  · rw [if_neg (by omega), if_neg (by omega)]
theorem upIn_all (R C : Nat) (f : Nat → Nat → Int) : mkM R C (upIn C f R 0) = mkM R C (invM f) := mkM_congr fun a b ha hb => by
  rw [upIn, if_pos (by omega)]; rfl
end Go.Proofs.Ytjnnoabaepmcnaa
/-
  ColSums of both.
-/
namespace Go.Proofs.Ytjnnoabaepmcnaa
open Go.RowKit

theorem implColSums_no (v : Value) (m : List (List Int)) (w : World) (hin : InMat w v m) (h : okB m = false) :
    Calls Try.prog 16 #[v] w (IntsRes [] w) := by
  have HI := hide hin; have H := hide h
  clear hin h
  go_enter Try.func16, Try.ntmps16
  go_wp2_with fail
  refine (implTransposeOf_no v m _ HI.out H.out).mono ?_
  rintro e w1 ⟨u, rfl, ho, hb⟩
  have HM := hide (inMat_own ho); have HB := hide hb
  clear ho hb
  go_wp2_with fail
  refine (implRowSums_no u [] _ HM.out (by decide)).mono ?_
  rintro e w2 ⟨u2, rfl, ho, hb⟩
  have HO := hide (own_base ho HB.out.size); have HB2 := hide (HB.out.trans (hb.mono HB.out.size))
  clear ho hb
  go_wp2
  go_ret
  exact ⟨_, rfl, HO.out, HB2.out⟩
theorem implColSums_yes (v : Value) (R C : Nat) (f : Nat → Nat → Int) (w : World) (hin : InMat w v (mkM R C f)) (hI : Img R C f) :
    Calls Try.prog 16 #[v] w (IntsRes (rowsL C R (trM f)) w) := by
  have HI := hide hin; have H := hide hI
  clear hin hI
  go_enter Try.func16, Try.ntmps16
  go_wp2_with fail
  refine (implTransposeOf_yes v R C f _ HI.out H.out).mono ?_
  rintro e w1 ⟨u, rfl, ho, hb⟩
  have HM := hide (inMat_own ho); have HB := hide hb
  clear ho hb
  go_wp2_with fail
  refine (implRowSums_yes u C R (trM f) _ HM.out (img_tr H.out)).mono ?_
  rintro e w2 ⟨u2, rfl, ho, hb⟩
  have HO := hide (own_base ho HB.out.size); have HB2 := hide (HB.out.trans (hb.mono HB.out.size))
  clear ho hb
  go_wp2
  go_ret
  exact ⟨_, rfl, HO.out, HB2.out⟩

end Go.Proofs.Ytjnnoabaepmcnaa
/-
  PURE: what the law FnSums says of an image.
-/
namespace Go.Proofs.Ytjnnoabaepmcnaa
open Go.RowKit

/-- The number of black cells. -/
def blk25 (R C : Nat) (f : Nat → Nat → Int) : Nat := cnt (fun i => imgF R C f i == 1) 25
theorem blk_le (R C : Nat) (f : Nat → Nat → Int) : blk25 R C f ≤ 25 := cnt_le _ _
theorem black_all {R C N : Nat} {f : Nat → Nat → Int} {dx dy : Int} (hn : Near dx dy) (hI : Img R C f) (hN : (N : Int) = countL R C dx dy) : (lineRow R C f dx dy N).sum = (blk25 R C f : Nat) := by
  unfold blk25
  rw [black_img hI]
  unfold lineRow
  rw [Nat.mul_comm R C]
  refine lines_total C N f (dx, dy) (C * R) fun i hi => ?_
  have h1 := hI.r1; have h2 := hI.r2; have h3 := hI.c1; have h4 := hI.c2
  have hx := Nat.mod_lt i (show C > 0 by omega)
  have hy : i / C < R := Nat.div_lt_of_lt_mul hi
  generalize i / C = Y at hy
  generalize i % C = X at hx
  obtain ⟨p1, p2, p3⟩ := lnum_range (rows := R) (cols := C) (y := Y) (x := X) hn (by omega) (by omega) (by omega) (by omega) (by omega) (by omega) (by omega) (by omega)
  refine ⟨p1, ?_⟩
  unfold countL at hN
  show lnum dx dy C Y X < N
  omega
theorem rows_sum {R C : Nat} {f : Nat → Nat → Int} (hI : Img R C f) : (rowsL R C f).sum = (blk25 R C f : Nat) := by
  rw [← lineRow_rows]
  exact black_all (near_of (show dirOk 1 0 = true by decide)) hI (countL_rows R C).symm
theorem sum_row_cnt (p : Nat → Bool) : ∀ n, (rowF n fun x => if p x = true then (1 : Int) else 0).sum = (cnt p n : Nat)
  | 0 => rfl
  | n + 1 => by
    rw [sum_rowF_succ, sum_row_cnt p n, cnt]
    split <;> simp
theorem sum_swap (f : Nat → Nat → Int) (C : Nat) : ∀ R, (rowF C fun x => (cnt (fun y => f y x == 1) R : Int)).sum = (rowF R fun y => (cnt (fun x => f y x == 1) C : Int)).sum
  | 0 => sum_rowF_zero C
  | R + 1 => by
    rw [sum_rowF_succ, ← sum_swap f C R, ← sum_row_cnt (fun x => f R x == 1) C, ← sum_rowF_add]
    refine sum_rowF_congr fun i _ => ?_
    rw [cnt]
    split <;> simp
theorem cols_sum {R C : Nat} {f : Nat → Nat → Int} (hI : Img R C f) : (rowsL C R (trM f)).sum = (blk25 R C f : Nat) := by
  rw [← rows_sum hI]
  exact sum_swap f C R
theorem rows_cell (R C : Nat) (f : Nat → Nat → Int) {i : Nat} (h : i < (rowsL R C f).length) : 0 ≤ (rowsL R C f)[i] ∧ (rowsL R C f)[i] ≤ C := by
  have e : (rowsL R C f)[i] = ((rs C f i : Nat) : Int) := rowF_at R (fun y => ((rs C f y : Nat) : Int)) i h
  have : rs C f i ≤ C := cnt_le _ _
  rw [e]
  omega
theorem rowsL_lenS (R C : Nat) (f : Nat → Nat → Int) : (rowsL R C f).length = R := rowF_len _ _
theorem img_sumsOk {R C : Nat} {f : Nat → Nat → Int} (hI : Img R C f) : sumsOk (rowsL R C f) (rowsL C R (trM f)) = true := by
  have h1 := hI.r1; have h2 := hI.r2; have h3 := hI.c1; have h4 := hI.c2
  unfold sumsOk
  rw [rowsL_lenS, rowsL_lenS, rows_sum hI, cols_sum hI, any_no (fun i hi => by
    have := rows_cell R C f hi
    unfold badB
    rw [decide_eq_false (by omega), decide_eq_false (by omega)]; rfl), any_no (fun i hi => by
    have := rows_cell C R (trM f) hi
    unfold badB
    rw [decide_eq_false (by omega), decide_eq_false (by omega)]; rfl), sizeOk, decide_eq_true (show 1 ≤ (R : Int) ∧ (R : Int) ≤ 5 by omega), decide_eq_true (show 1 ≤ (C : Int) ∧ (C : Int) ≤ 5 by omega)]
  simp
theorem rows_smallT {R C : Nat} {f : Nat → Nat → Int} (hR : R ≤ 5) (hC : C ≤ 5) : SmallT (rowsL R C f) := ⟨by rw [rowsL_lenS]; omega, fun i hi => by have := rows_cell R C f hi; omega⟩
theorem line_smallT {R C N : Nat} {f : Nat → Nat → Int} {dx dy : Int} (hR : R ≤ 5) (hC : C ≤ 5) (hN : N ≤ 41) : SmallT (lineRow R C f dx dy N) := ⟨by unfold lineRow; rw [rowF_len]; omega, fun i hi => by
  have e : (lineRow R C f dx dy N)[i] = ((cnt (onL C f (dx, dy) i) (R * C) : Nat) : Int) := rowF_at N (fun j : Nat => ((cnt (onL C f (dx, dy) j) (R * C) : Nat) : Int)) i hi
  rw [e]
  have h1 : cnt (onL C f (dx, dy) i) (R * C) ≤ R * C := cnt_le _ _
  have h2 : R * C ≤ 5 * 5 := Nat.mul_le_mul hR hC
  omega⟩
theorem img_grid {R C : Nat} {f : Nat → Nat → Int} (hI : Img R C f) : gridOkB (mkM R C f) = true := by
  have h1 := hI.r1; have h2 := hI.r2; have h3 := hI.c1; have h4 := hI.c2
  have hw := width_mkM (C := C) (f := f) (show 0 < R by omega)
  unfold gridOkB gridB
  rw [hw, mkM_len, decide_eq_true (show R ≠ 0 by omega), sizeOk, decide_eq_true (show (1 : Int) ≤ R ∧ (R : Int) ≤ 5 by omega), decide_eq_true (show (1 : Int) ≤ C ∧ (C : Int) ≤ 5 by omega)]
  rw [anyRow_no fun r hr => by
    simp only [mkM, List.mem_map] at hr
    obtain ⟨y, -, rfl⟩ := hr
    rw [rowF_len]; simp]
  simp only [Bool.and_self, Bool.not_false, Bool.true_and]
  rw [List.all_eq_true]
  intro r hr
  simp only [mkM, List.mem_map, List.mem_range] at hr
  obtain ⟨y, hy, rfl⟩ := hr
  unfold within
  rw [rowF_all]
  intro x hx
  refine decide_eq_true ?_
  rcases hI.cell y x hy hx with e | e <;> rw [e] <;> omega
theorem img_gsL {R C N : Nat} {f : Nat → Nat → Int} {dx dy : Int} (hI : Img R C f) (hd : dirOk dx dy = true) (hN : (N : Int) = countL R C dx dy) : gsL (mkM R C f) dx dy = lineRow R C f dx dy N := by
  have h1 := hI.r1; have h3 := hI.c1
  have hw := width_mkM (C := C) (f := f) (show 0 < R by omega)
  unfold gsL
  rw [img_grid hI, hd, hw, mkM_len, show (countL R C dx dy).toNat = N by omega, ← lineRow_img hI]
  simp only [Bool.and_self, if_true]
  unfold lineRowE
  refine rowF_congr fun i _ => ?_
  rw [Nat.mul_comm]
  refine sumF_congr fun j hj => ?_
  have h1 : j / C < R := (Nat.div_lt_iff_lt_mul (by omega)).2 (by rw [Nat.mul_comm]; exact hj)
  have h2 : j % C < C := Nat.mod_lt _ (by omega)
  unfold elL
  rw [elM_mk h1 h2]
theorem line_lenS (R C N : Nat) (f : Nat → Nat → Int) (dx dy : Int) : (lineRow R C f dx dy N).length = N := rowF_len _ _
end Go.Proofs.Ytjnnoabaepmcnaa
/-
  The images that the laws draw: l02Draw, MakeImage, MakeSized.
-/
namespace Go.Proofs.Ytjnnoabaepmcnaa
open Go.RowKit

theorem curAt_within {w w' : World} {B n : Nat} {a : Option Addr} (h : CurAt w B a n) (hb : w'.heap[B]? = w.heap[B]?) : CurAt w' B a n := by
  obtain ⟨c, i, k, h1, h2, h3⟩ := h
  exact ⟨c, i, k, by rw [hb]; exact h1, h2, h3⟩
theorem curAt_lt {w : World} {B n : Nat} {a : Option Addr} (h : CurAt w B a n) : B < w.heap.size := by
  obtain ⟨c, i, k, h1, -⟩ := h
  exact (Array.getElem?_eq_some_iff.1 h1).1
theorem curAt_below {w w' : World} {B n : Nat} {a : Option Addr} (h : CurAt w B a n) (hb : Below w.heap.size w w') : CurAt w' B a n := curAt_within h (hb.block B (curAt_lt h))
theorem ownMat_cur {w w' : World} {lo hi B : Nat} {v : Value} {m : List (List Int)} (h : OwnMat w lo hi v m) (hg : w.grownBy w' (some B)) (hB : B < lo) : OwnMat w' lo hi v m :=
  ownMat_within h (within_grown (lo := B) (hi := B + 1) hg fun k hk => by cases hk; exact ⟨Nat.le_refl _, Nat.lt_succ_self _⟩) (.inr hB)
theorem grown_undrew {w w' : World} {row : Option Nat} (h : w.drew.grownBy w' row) : w.grownBy w' row := ⟨h.os, h.tape, h.output, h.size, h.block⟩
theorem cells_kept {w w' : World} {B gv y gr x : Nat} {u z : Value} (h : w.drew.grownBy w' (some B)) (h1 : w.cell? ⟨gv, y, none⟩ = some u) (h2 : w.cell? ⟨gr, x, none⟩ = some z) (h3 : w.frozen? ⟨gr, x, none⟩ = false) (n1 : gv ≠ B) (n2 : gr ≠ B) :
    w'.cell? ⟨gv, y, none⟩ = some u ∧ w'.cell? ⟨gr, x, none⟩ = some z ∧ w'.frozen? ⟨gr, x, none⟩ = false := by
  have hg := grown_undrew h
  refine ⟨hg.cell h1 (by simpa using n1), hg.cell h2 (by simpa using n2), ?_⟩
  have hlt : gr < w.heap.size := World.block_lt_of_cell? w _ h2
  rw [World.frozen?_of_block (w := w) (a := ⟨gr, x, none⟩) (hg.block gr hlt (by simpa using n2))]; exact h3
theorem img_upd {R C : Nat} {f : Nat → Nat → Int} (h : Img R C f) (y x : Nat) {z : Int} (hz : z = 0 ∨ z = 1) : Img R C fun a b => if a = y ∧ b = x then z else f a b :=
  ⟨h.r1, h.r2, h.c1, h.c2, fun a b ha hb => by
    show (if a = y ∧ b = x then z else f a b) = 0 ∨ (if a = y ∧ b = x then z else f a b) = 1
    split
    · exact hz
    · exact h.cell a b ha hb⟩

theorem ownMat_apart {w : World} {lo hi g n c g' n' c' : Nat} {m : List (List Int)} (h : OwnMat w lo hi (.slice (some ⟨g, 0, none⟩) n c) m) (i : Nat) (h' : i < m.length) (hc : w.cell? ⟨g, i, none⟩ = some (.slice (some ⟨g', 0, none⟩) n' c')) : g ≠ g' := by
  obtain ⟨vs, ho, -, hr, -⟩ := h
  have hn : n = m.length := by
    rcases ho.2 with ⟨e, _⟩ | ⟨g2, cap, cur, e, _⟩
    · cases e
    · cases e; rfl
  subst hn
  have h1 := cell_held ho h'
  rw [hc, Option.some.injEq] at h1
  rcases own_types ho (hr i h').1 (by decide) with e | e
  · cases e
  · rw [← h1] at e
    simpa [Value.ownBlock] using e
/-- What the laws draw: some image; the cursor in its place; nothing below it touched. -/
def DrawnImg (w : World) (B : Nat) (a : Option Addr) (n : Nat) (e : Ending) (w' : World) : Prop :=
  ∃ (v : Value) (R C : Nat) (f : Nat → Nat → Int), e = .returned v ∧ Img R C f ∧ OwnMat w' w.heap.size w'.heap.size v (mkM R C f) ∧ CurAt w' B a n ∧ Below B w w'

/-- And it is of the size asked. -/
def DrawnMost (most : Nat) (w : World) (B : Nat) (a : Option Addr) (n : Nat) (e : Ending) (w' : World) : Prop :=
  ∃ (v : Value) (R C : Nat) (f : Nat → Nat → Int), e = .returned v ∧ Img R C f ∧ (R ≤ most ∧ C ≤ most) ∧ OwnMat w' w.heap.size w'.heap.size v (mkM R C f) ∧ CurAt w' B a n ∧ Below B w w'
set_option maxRecDepth 100000 in
set_option maxHeartbeats 1000000 in
theorem l02Draw_most (B n : Nat) (a : Option Addr) (most : Nat) (w : World) (base : Nat) (hm0 : 1 ≤ most) (hm1 : most ≤ 5) (hc : CurAt w B a n) (hin : InBytes w base a n) (hbase : base ≤ B) :
    Calls Try.prog 28 #[.pointer (some ⟨B, 0, none⟩), .int .i64 most] w (DrawnMost most w B a n) := by
  have HC := hide hc; have HI := hide hin
  have hBw := curAt_lt hc
  clear hc hin
  go_enter Try.func28, Try.ntmps28
  go_wp2_with fail
  refine (l01Below_any B n a most _ base (by omega) (by omega) HC.out HI.out hbase).mono ?_
  rintro e w1 ⟨x1, hx10, hx11, rfl, hc1, hg1⟩
  have HC1 := hide hc1; have HI1 := hide (inBytes_grown HI.out hg1 hbase); have HG1 := hide hg1
  clear hc1 hg1
  go_wp2_with fail
  refine (l01Below_any B n a most _ base (by omega) (by omega) HC1.out HI1.out hbase).mono ?_
  rintro e w2 ⟨x2, hx20, hx21, rfl, hc2, hg2⟩
  have HC2 := hide hc2; have HI2 := hide (inBytes_grown HI1.out hg2 hbase); have HG2 := hide (grown_trans HG1.out hg2)
  clear hc2 hg2
  obtain ⟨R, hR⟩ : ∃ R : Nat, 1 + x1 = R := ⟨(1 + x1).toNat, by omega⟩
  obtain ⟨C, hC⟩ : ∃ C : Nat, 1 + x2 = C := ⟨(1 + x2).toNat, by omega⟩
  have HMOST : Hid (R ≤ most ∧ C ≤ most) := hide (by omega)
  have hR5 : 1 ≤ R ∧ R ≤ 5 := by omega
  have hC5 : 1 ≤ C ∧ C ≤ 5 := by omega
  obtain rfl : x1 = R - 1 := by omega
  obtain rfl : x2 = C - 1 := by omega
  have k1 : 1 + ((R : Int) - 1) = R := by omega
  have k2 : 1 + ((C : Int) - 1) = C := by omega
  clear hR hC
  go_wp2_with fail
  refine (l02Empty_any R C _ hR5.2 hC5.2).mono ?_
  rintro e w3 ⟨v3, rfl, o3, b3⟩
  clear k1 k2
  obtain ⟨gv, cv, rfl⟩ := ownMat_some o3 (by rw [mkM_len]; omega)
  rw [mkM_len] at *
  have hs2 := HG2.out.size
  have B3 := hide ((grown_below HG2.out (fun k hk => by cases hk; exact Nat.le_refl B) (by omega) : Below B w w2).trans (b3.mono (by omega)))
  have C3 := hide (curAt_below HC2.out b3)
  have I3 := hide (inBytes_below HI2.out (b3.mono (by have := HI2.out.2.1; omega)))
  have O3 := hide (ownMat_mono o3 hs2 (Nat.le_refl _))
  have IM3 := hide (img_zero hR5 hC5)
  obtain ⟨hi, hhi⟩ : ∃ hi, hi = w3.heap.size := ⟨_, rfl⟩
  have hge : hi ≤ w3.heap.size := by omega
  rw [← hhi] at O3
  clear HG2 HC2 HI2 HC1 HI1 HG1 o3 b3 hhi
  go_wp2
  go_loopw [19] (fun i w' => ∃ (y : Nat) (f : Nat → Nat → Int), y ≤ R ∧ i = .int .i64 y ∧ Img R C f ∧ hi ≤ w'.heap.size ∧ OwnMat w' w.heap.size hi (.slice (some ⟨gv, 0, none⟩) R cv) (mkM R C f) ∧ CurAt w' B a n ∧ InBytes w' base a n ∧ Below B w w') (fun i _ => R - (intOf i).toNat)
  case atStart => exact ⟨0, zeroM, by omega, rfl, IM3.out, hge, O3.out, C3.out, I3.out, B3.out⟩
  case round =>
    clear B3 C3 I3 O3 IM3 hge
    obtain ⟨y, f, hy, rfl, him, hhi, hown, hcu, hib, hb⟩ := hrel
    have HM := hide him; have HO := hide hown; have HCu := hide hcu; have HIB := hide hib; have HB := hide hb
    clear him hown hcu hib hb
    by_cases hlt : y < R
    · have hyI : (y : Int) < R := by omega
      obtain ⟨g0, c0, hrow0, -⟩ := ownMat_cell HO.out y 0 hlt (by omega)
      go_wp2
      clear hrow0
      go_loopw [27] (fun i w' => ∃ (x : Nat) (f : Nat → Nat → Int), x ≤ C ∧ i = .int .i64 x ∧ Img R C f ∧ hi ≤ w'.heap.size ∧ OwnMat w' w.heap.size hi (.slice (some ⟨gv, 0, none⟩) R cv) (mkM R C f) ∧ CurAt w' B a n ∧ InBytes w' base a n ∧ Below B w w') (fun i _ => C - (intOf i).toNat)
      case atStart => exact ⟨0, f, by omega, rfl, HM.out, hhi, HO.out, HCu.out, HIB.out, HB.out⟩
      case round =>
        clear HM HO HCu HIB HB hhi f
        obtain ⟨x, f, hx, rfl, him, hhi, hown, hcu, hib, hb⟩ := hrel
        have HM := hide him; have HO := hide hown; have HCu := hide hcu; have HIB := hide hib; have HB := hide hb
        clear him hown hcu hib hb
        by_cases hlx : x < C
        · have hxI : (x : Int) < C := by omega
          obtain ⟨gr, cr, hrow, hcl, hfr, hlo, hgh, -⟩ := ownMat_cell HO.out y x hlt hlx
          have hgv : gv ≠ B := by
            obtain ⟨vs, hvs, -⟩ := HO.out
            have := (hvs.lt gv rfl).1; omega
          have HK : Hid (∀ w5, CurAt w5 B a n → wr.drew.grownBy w5 (some B) → w5.cell? ⟨gv, y, none⟩ = some (.slice (some ⟨gr, 0, none⟩) C cr) ∧ w5.cell? ⟨gr, x, none⟩ = some (.int .i64 (f y x)) ∧ w5.frozen? ⟨gr, x, none⟩ = false) := hide fun w5 hc hg => cells_kept hg hrow hcl hfr hgv (by omega)
          have hgg : gv ≠ gr := ownMat_apart HO.out y (by rw [mkM_len]; exact hlt) hrow
          have HCd : Hid (CurAt wr.drew B a n) := hide HCu.out
          have HId : Hid (InBytes wr.drew base a n) := hide HIB.out
          go_wp2
          go_region_held3 (fun w' => w'.cell? ⟨gv, y, none⟩ = some (.slice (some ⟨gr, 0, none⟩) C cr))
            (first | exact hrow | exact k1 | exact HKS.out)
            (first | (go_at_call 32; refine (l01Below_any B n a 2 _ base (by omega) (by omega) HCd.out HId.out hbase).mono ?_; rintro e w5 ⟨z, hz0, hz1, rfl, hc5, hg5⟩; obtain ⟨k1, k2, k3⟩ := HK.out w5 hc5 hg5; have HZ : Hid (z = 0 ∨ z = 1) := hide (by omega); have HKS : Hid ((w5.setCell ⟨gr, x, none⟩ (.int .i64 z)).cell? ⟨gv, y, none⟩ = some (.slice (some ⟨gr, 0, none⟩) C cr)) := hide (by rw [World.cell?_setCell_other _ _ _ _ (fun e => hgg (congrArg Addr.block e).symm)]; exact k1); replace hc5 := hide hc5; replace hg5 := hide hg5))
          go_wp2
          go_roundw
          case rel =>
            have hg := grown_undrew hg5.out
            have ho5 := ownMat_cur HO.out hg (by omega)
            obtain ⟨g7, c7, hrow7, -, -, -, -, hset⟩ := ownMat_cell ho5 y x hlt hlx
            rw [k1] at hrow7
            simp only [Option.some.injEq, Value.slice.injEq, Addr.mk.injEq] at hrow7
            obtain ⟨⟨rfl, -, -⟩, -, -⟩ := hrow7
            exact ⟨x + 1, _, by omega, by go_num, img_upd HM.out y x HZ.out, (by have := hg.size; simp [World.setCell]; omega), hset z, curAt_within hc5.out (heap_setCell_other _ _ _ _ (by show B ≠ gr; omega)), inBytes_below (inBytes_grown HIB.out hg hbase) ((Below.refl _ _).setCell (by show base ≤ gr; omega) _), (HB.out.trans (grown_below hg (fun k hk => by cases hk; exact Nat.le_refl _) (by have := curAt_lt HCu.out; omega))).setCell (by show B ≤ gr; omega) _⟩
          case measure => simp [intOf]; omega
        · obtain rfl : x = C := by omega
          go_wp2
          go_roundw
          case rel => exact ⟨y + 1, f, by omega, by go_num, HM.out, hhi, HO.out, HCu.out, HIB.out, HB.out⟩
          case measure => simp [intOf]; omega
    · obtain rfl : y = R := by omega
      go_wp2
      go_ret
      exact ⟨_, y, C, f, rfl, HM.out, HMOST.out, ownMat_mono HO.out (Nat.le_refl _) hhi, HCu.out, HB.out⟩

theorem l02Draw_any (B n : Nat) (a : Option Addr) (most : Nat) (w : World) (base : Nat) (hm0 : 1 ≤ most) (hm1 : most ≤ 5) (hc : CurAt w B a n) (hin : InBytes w base a n) (hbase : base ≤ B) :
    Calls Try.prog 28 #[.pointer (some ⟨B, 0, none⟩), .int .i64 most] w (DrawnImg w B a n) :=
  (l02Draw_most B n a most w base hm0 hm1 hc hin hbase).mono fun _ _ ⟨v, R, C, f, h1, h2, _, h3, h4, h5⟩ => ⟨v, R, C, f, h1, h2, h3, h4, h5⟩

/-- What the laws' makers answer: some image. -/
def MadeImg (w : World) (e : Ending) (w' : World) : Prop := ∃ (v : Value) (R C : Nat) (f : Nat → Nat → Int), e = .returned v ∧ Img R C f ∧ OwnMat w' w.heap.size w'.heap.size v (mkM R C f) ∧ Below w.heap.size w w'
set_option maxHeartbeats 400000 in
theorem makeImage_any (n c : Nat) (a : Option Addr) (m : Nat) (w : World) (base : Nat) (hin : InBytes w base a n) (hn : n ≤ 2000000) (hm : m ≤ 1000) :
    Calls Try.prog 6 #[.slice a n c, .int .i64 m, .int .i64 5] w (MadeImg w) := by
  have HI := hide hin
  clear hin
  go_enter Try.func6, Try.ntmps6
  go_wp2_with fail
  refine (l18New_any n c a m _ base HI.out hn hm).mono ?_
  rintro e w1 ⟨rfl, hc, hb, hlt⟩
  have HC := hide hc; have HB := hide hb; have hs1 := hb.size
  have HI1 := hide (inBytes_below HI.out (hb.mono HI.out.2.1))
  clear hc hb
  go_wp2_with fail
  refine (l02Draw_any _ n a 5 _ base (by omega) (by omega) HC.out HI1.out HI.out.2.1).mono ?_
  rintro e w2 ⟨v, R, C, f, rfl, him, ho, -, hb⟩
  have HIM := hide him; have HO := hide (ownMat_mono ho hs1 (Nat.le_refl _)); have HB2 := hide (HB.out.trans hb)
  clear him ho hb
  go_wp2
  go_ret
  exact ⟨v, R, C, f, rfl, HIM.out, HO.out, HB2.out⟩

/-- What MakeSized answers: an image of the size asked. -/
def SizedImg (R C : Nat) (w : World) (e : Ending) (w' : World) : Prop := ∃ (v : Value) (f : Nat → Nat → Int), e = .returned v ∧ Img R C f ∧ OwnMat w' w.heap.size w'.heap.size v (mkM R C f) ∧ Below w.heap.size w w'
set_option maxRecDepth 100000 in
set_option maxHeartbeats 1000000 in
theorem makeSized_any (n c : Nat) (a : Option Addr) (m R C : Nat) (w : World) (base : Nat) (hin : InBytes w base a n) (hn : n ≤ 2000000) (hm : m ≤ 1000) (hR5 : 1 ≤ R ∧ R ≤ 5) (hC5 : 1 ≤ C ∧ C ≤ 5) :
    Calls Try.prog 24 #[.slice a n c, .int .i64 m, .int .i64 R, .int .i64 C] w (SizedImg R C w) := by
  have HI := hide hin
  have hbase := hin.2.1
  clear hin
  go_enter Try.func24, Try.ntmps24
  go_wp2_with fail
  refine (l18New_any n c a m _ base HI.out hn hm).mono ?_
  rintro e w0 ⟨rfl, hc, hb, hBw⟩
  have HC0 := hide hc; have HB0 := hide hb; have HI0 := hide (inBytes_below HI.out (hb.mono HI.out.2.1))
  clear hc hb HI
  obtain ⟨B, hB⟩ : ∃ B, w.heap.size = B := ⟨_, rfl⟩
  rw [hB] at HC0 HB0 hBw hbase ⊢
  have HEB := hide hB
  clear hB
  go_wp2_with fail
  rw [show max (1 : Int) (min (R : Int) 5) = R by omega, show max (1 : Int) (min (C : Int) 5) = C by omega]
  refine (l02Empty_any R C _ hR5.2 hC5.2).mono ?_
  rintro e w3 ⟨v3, rfl, o3, b3⟩
  obtain ⟨gv, cv, rfl⟩ := ownMat_some o3 (by rw [mkM_len]; omega)
  rw [mkM_len] at *
  have B3 := hide (HB0.out.trans (b3.mono (by omega)))
  have C3 := hide (curAt_below HC0.out b3)
  have I3 := hide (inBytes_below HI0.out (b3.mono (by omega)))
  have O3 := hide o3
  have IM3 := hide (img_zero hR5 hC5)
  obtain ⟨hi, hhi⟩ : ∃ hi, hi = w3.heap.size := ⟨_, rfl⟩
  have hge : hi ≤ w3.heap.size := by omega
  rw [← hhi] at O3
  clear HC0 HI0 o3 b3 hhi
  go_wp2
  go_loopw [25] (fun i w' => ∃ (y : Nat) (f : Nat → Nat → Int), y ≤ R ∧ i = .int .i64 y ∧ Img R C f ∧ hi ≤ w'.heap.size ∧ OwnMat w' w0.heap.size hi (.slice (some ⟨gv, 0, none⟩) R cv) (mkM R C f) ∧ CurAt w' B a n ∧ InBytes w' base a n ∧ Below B w w') (fun i _ => R - (intOf i).toNat)
  case atStart => exact ⟨0, zeroM, by omega, rfl, IM3.out, hge, O3.out, C3.out, I3.out, B3.out⟩
  case round =>
    clear B3 C3 I3 O3 IM3 hge
    obtain ⟨y, f, hy, rfl, him, hhi, hown, hcu, hib, hb⟩ := hrel
    have HM := hide him; have HO := hide hown; have HCu := hide hcu; have HIB := hide hib; have HB := hide hb
    clear him hown hcu hib hb
    by_cases hlt : y < R
    · have hyI : (y : Int) < R := by omega
      obtain ⟨g0, c0, hrow0, -⟩ := ownMat_cell HO.out y 0 hlt (by omega)
      go_wp2
      clear hrow0
      go_loopw [33] (fun i w' => ∃ (x : Nat) (f : Nat → Nat → Int), x ≤ C ∧ i = .int .i64 x ∧ Img R C f ∧ hi ≤ w'.heap.size ∧ OwnMat w' w0.heap.size hi (.slice (some ⟨gv, 0, none⟩) R cv) (mkM R C f) ∧ CurAt w' B a n ∧ InBytes w' base a n ∧ Below B w w') (fun i _ => C - (intOf i).toNat)
      case atStart => exact ⟨0, f, by omega, rfl, HM.out, hhi, HO.out, HCu.out, HIB.out, HB.out⟩
      case round =>
        clear HM HO HCu HIB HB hhi f
        obtain ⟨x, f, hx, rfl, him, hhi, hown, hcu, hib, hb⟩ := hrel
        have HM := hide him; have HO := hide hown; have HCu := hide hcu; have HIB := hide hib; have HB := hide hb
        clear him hown hcu hib hb
        by_cases hlx : x < C
        · have hxI : (x : Int) < C := by omega
          obtain ⟨gr, cr, hrow, hcl, hfr, hlo, hgh, -⟩ := ownMat_cell HO.out y x hlt hlx
          have hgv : gv ≠ B := by
            obtain ⟨vs, hvs, -⟩ := HO.out
            have := (hvs.lt gv rfl).1; omega
          have HK : Hid (∀ w5, CurAt w5 B a n → wr.drew.grownBy w5 (some B) → w5.cell? ⟨gv, y, none⟩ = some (.slice (some ⟨gr, 0, none⟩) C cr) ∧ w5.cell? ⟨gr, x, none⟩ = some (.int .i64 (f y x)) ∧ w5.frozen? ⟨gr, x, none⟩ = false) := hide fun w5 hc hg => cells_kept hg hrow hcl hfr hgv (by omega)
          have hgg : gv ≠ gr := ownMat_apart HO.out y (by rw [mkM_len]; exact hlt) hrow
          have HCd : Hid (CurAt wr.drew B a n) := hide HCu.out
          have HId : Hid (InBytes wr.drew base a n) := hide HIB.out
          go_wp2
          go_region_held3 (fun w' => w'.cell? ⟨gv, y, none⟩ = some (.slice (some ⟨gr, 0, none⟩) C cr))
            (first | exact hrow | exact k1 | exact HKS.out)
            (first | (go_at_call 32; refine (l01Below_any B n a 2 _ base (by omega) (by omega) HCd.out HId.out hbase).mono ?_; rintro e w5 ⟨z, hz0, hz1, rfl, hc5, hg5⟩; obtain ⟨k1, k2, k3⟩ := HK.out w5 hc5 hg5; have HZ : Hid (z = 0 ∨ z = 1) := hide (by omega); have HKS : Hid ((w5.setCell ⟨gr, x, none⟩ (.int .i64 z)).cell? ⟨gv, y, none⟩ = some (.slice (some ⟨gr, 0, none⟩) C cr)) := hide (by rw [World.cell?_setCell_other _ _ _ _ (fun e => hgg (congrArg Addr.block e).symm)]; exact k1); replace hc5 := hide hc5; replace hg5 := hide hg5))
          go_wp2
          go_roundw
          case rel =>
            have hg := grown_undrew hg5.out
            have ho5 := ownMat_cur HO.out hg (by omega)
            obtain ⟨g7, c7, hrow7, -, -, -, -, hset⟩ := ownMat_cell ho5 y x hlt hlx
            rw [k1] at hrow7
            simp only [Option.some.injEq, Value.slice.injEq, Addr.mk.injEq] at hrow7
            obtain ⟨⟨rfl, -, -⟩, -, -⟩ := hrow7
            exact ⟨x + 1, _, by omega, by go_num, img_upd HM.out y x HZ.out, (by have := hg.size; simp [World.setCell]; omega), hset z, curAt_within hc5.out (heap_setCell_other _ _ _ _ (by show B ≠ gr; omega)), inBytes_below (inBytes_grown HIB.out hg hbase) ((Below.refl _ _).setCell (by show base ≤ gr; omega) _), (HB.out.trans (grown_below hg (fun k hk => by cases hk; exact Nat.le_refl _) (by have := curAt_lt HCu.out; omega))).setCell (by show B ≤ gr; omega) _⟩
          case measure => simp [intOf]; omega
        · obtain rfl : x = C := by omega
          go_wp2
          go_roundw
          case rel => exact ⟨y + 1, f, by omega, by go_num, HM.out, hhi, HO.out, HCu.out, HIB.out, HB.out⟩
          case measure => simp [intOf]; omega
    · obtain rfl : y = R := by omega
      go_wp2
      go_ret
      exact ⟨_, f, rfl, HM.out, ownMat_mono HO.out (by have := HB0.out.size; exact this) hhi, by rw [HEB.out]; exact HB.out⟩

end Go.Proofs.Ytjnnoabaepmcnaa
/-
  One of a list's numbers is drawn.
-/
namespace Go.Proofs.Ytjnnoabaepmcnaa
open Go.RowKit

set_option maxHeartbeats 400000 in
theorem l01Pick_any (B n : Nat) (a : Option Addr) (g len cap : Nat) (l : List Int) (hln : len = l.length) (w : World) (base : Nat) (hc : CurAt w B a n) (hin : InBytes w base a n) (hbase : base ≤ B) (h1 : 1 ≤ l.length ∧ l.length ≤ 100) (hg : g ≠ B) (hlt : g < w.heap.size)
    (hl : ∀ i, (h : i < l.length) → w.cell? ⟨g, i, none⟩ = some (.int .i64 l[i])) :
    Calls Try.prog 62 #[.pointer (some ⟨B, 0, none⟩), .slice (some ⟨g, 0, none⟩) len cap] w fun e w' => ∃ z, z ∈ l ∧ e = .returned (.int .i64 z) ∧ CurAt w' B a n ∧ w.grownBy w' (some B) := by
  have HC := hide hc; have HI := hide hin; have HL := hide hl
  obtain ⟨k, rfl⟩ : ∃ k, k = len := ⟨_, rfl⟩
  have HK := hide hln
  rw [← hln] at h1
  obtain ⟨h1a, h1b⟩ := h1
  clear hc hin hl hln
  go_enter Try.func62, Try.ntmps62
  go_wp2_with fail
  refine (l01Below_any B n a k _ base (by omega) (by omega) HC.out HI.out hbase).mono ?_
  rintro e w1 ⟨x, hx0, hx1, rfl, hc1, hg1⟩
  obtain ⟨j, rfl⟩ : ∃ j : Nat, x = j := ⟨x.toNat, by omega⟩
  have hj : j < k := by omega
  have hjl : j < l.length := by rw [← HK.out]; exact hj
  have hcell : w1.cell? ⟨g, j, none⟩ = some (.int .i64 l[j]) := (World.cell?_of_block (hg1.block g hlt (by simp; omega))).trans (HL.out j hjl)
  have HMEM := hide (show l[j] ∈ l from List.getElem_mem hjl)
  obtain ⟨z, hz⟩ : ∃ z, z = l[j] := ⟨_, rfl⟩
  rw [← hz] at hcell HMEM
  have HC1 := hide hc1; have HG1 := hide hg1
  clear hc1 hg1 hz hx0 hx1
  go_wp2
  go_ret
  exact ⟨z, HMEM.out, rfl, HC1.out, HG1.out⟩
end Go.Proofs.Ytjnnoabaepmcnaa
