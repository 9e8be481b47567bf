/-
  Texts of this claim, one behind the other: ShSl, Lists, Arr2, Grown, SwV, SwL, Has, Swd.
-/
import Derived.Shelf.Slices.Clone
import Derived.Ground.Names2Prog
import Derived.Test.YtpfaaglaeholbaaGreatProg
import Derived.Test.YtpfaaglaeholbaaGreatPackB
import Derived.Test.YtpfaaglaeholbaaGreatPackA
import Derived.Shelf.SlSortCmp.QuietGrown
import Derived.Test.YtpfaaglaeholbaaGreatPackC
/-
  Contracts of the library, at this translation: laid by the shelf, in plain declarations.
-/
namespace Go.Proofs
open Go.Shelf Go.RowKit Go.Lib
def Tryz.laysNm215_ren : Go.Shelf.Ren := ⟨fun | 15 => 78 | n => n, fun | 22 => 25 | 3 => 3 | 4 => 4 | n => n, fun | n => n⟩
theorem Tryz.laysNm215 : Go.Proofs.Lays2.n15 Tryz.prog Tryz.laysNm215_ren := {
  mixed := by kernel_rfl
  f15 := Tryz.func78.trans (congrArg some (by kernel_rfl))
  t3 := Tryz.underlying3
  a3 := Tryz.isAgg3
  z3 := Tryz.sizeOf3
  v3 := Tryz.zeroValue3
  t4 := Tryz.underlying4
  a4 := Tryz.isAgg4
  z4 := Tryz.sizeOf4
  v4 := Tryz.zeroValue4
  t22 := Tryz.underlying25
  a22 := Tryz.isAgg25
  z22 := Tryz.sizeOf25
  v22 := Tryz.zeroValue25
  i3 := by kernel_rfl }
theorem Tryz.slices_Clone_int (b off n c : Nat) (zs : List Int) (w : World) (hz : n ≤ zs.length) (hbig : n * 8 ≤ 140737488355328) (hc : ∀ j, j < zs.length → w.cell? ⟨b, off + j, none⟩ = some (.int .i64 (zs.getD j 0))) :
    Calls Tryz.prog 78 #[.slice (some ⟨b, off, none⟩) n c] w fun e w' => ∃ v', e = .returned v' ∧ w'.ownsRow w.heap.size 3 1 v' n ((zs.take n).map (Value.int .i64)) ∧ v' ≠ .slice none 0 0 ∧ Below w.heap.size w w' := Any.slices_Clone_int Tryz.laysNm215 b off n c zs w hz hbig hc
theorem Tryz.slices_Clone_int_nil (n c : Nat) (w : World) :
    Calls Tryz.prog 78 #[.slice none n c] w fun e w' => e = .returned (.slice none 0 0) ∧ w' = w := Any.slices_Clone_int_nil Tryz.laysNm215 n c w
theorem Tryz.slices_Clone_int_zero (a : Addr) (c : Nat) (w : World) :
    Calls Tryz.prog 78 #[.slice (some a) 0 c] w fun e w' => ∃ v', e = .returned v' ∧ w'.ownsRow w.heap.size 3 1 v' 0 [] ∧ v' ≠ .slice none 0 0 ∧ Below w.heap.size w w' := Any.slices_Clone_int_zero Tryz.laysNm215 a c w
end Go.Proofs
/-
  The program's images: size, lists.
-/
namespace Go.Proofs.YtpfaaglaeholbaaGreat
open Go.RowKit

set_option maxHeartbeats 400000 in
theorem size_any (G : Nat → Int) (n : Nat) (w : World) (hn : n ≤ 5) (h1 : ∀ j, j < n → G j ≠ -1) (h2 : n = 5 ∨ G n = -1) :
    Calls Tryz.prog 105 #[.agg (vec 5 G)] w fun e w' => e = .returned (.int .i64 n) ∧ Below w.heap.size w w' := by
  have N1 := hide h1; have N2 := hide h2
  clear h1 h2
  go_enter Tryz.func105, Tryz.ntmps105
  go_wp2_with (with_reducible refine wpList_boxVec 5 G 1 rfl rfl (.tmp 0) rfl rfl ?_; intro w1 h1 b1 s1)
  have H1 := hide h1; have B1 := hide b1
  clear h1 b1
  go_loop [3] (fun i => ∃ k : Nat, k ≤ n ∧ i = .int .i64 k) (fun i => n - (intOf i).toNat)
  case atStart => exact ⟨0, by omega, rfl⟩
  case round =>
    obtain ⟨k, hk, rfl⟩ := hrel
    by_cases hlt : k < n
    · have hx := blk_cell H1.out k (by omega)
      have hne := N1.out k hlt
      obtain ⟨y, hy⟩ : ∃ y, y = G k := ⟨_, rfl⟩
      rw [← hy] at hx hne
      have hb : (y != -1) = true := by simpa using hne
      have h5 : (k : Int) < 5 := by omega
      clear hy hne
      go_wp2
      go_round
      case rel => exact ⟨k + 1, by omega, by go_num⟩
      case measure => simp [intOf]; omega
    · obtain rfl : k = n := by omega
      by_cases h5 : k < 5
      · have hx := blk_cell H1.out k h5
        rw [N2.out.resolve_left (by omega)] at hx
        have h5' : (k : Int) < 5 := by omega
        go_wp2
        go_ret
        exact ⟨rfl, B1.out⟩
      · have h5' : ¬ (k : Int) < 5 := by omega
        go_wp2
        go_ret
        exact ⟨rfl, B1.out⟩

/-- A row of the padded image. -/
theorem imgF_row (R C : Nat) (f : Nat → Nat → Int) (y : Nat) : ∀ j, j < 5 → imgF R C f (y * 5 + j) = if y < R ∧ j < C then f y j else -1 := fun j hj => by
  rw [show y * 5 + j = 5 * y + j by omega, imgF_at R C f y j hj]

theorem ownMat_block {w w' : World} {lo hi g : Nat} {v : Value} {m : List (List Int)} (h : OwnMat w lo hi v m) (hg : w.grownBy w' (some g)) (hh : hi ≤ g) : OwnMat w' lo hi v m :=
  ownMat_within h (within_grown (lo := g) (hi := g + 1) hg fun k hk => by cases hk; exact ⟨Nat.le_refl _, Nat.lt_succ_self _⟩) (.inl hh)

set_option maxRecDepth 100000 in
set_option maxHeartbeats 1000000 in
theorem lists_any (R C : Nat) (f : Nat → Nat → Int) (w : World) (hI : Img R C f) :
    Calls Tryz.prog 63 #[.agg (vec 25 (imgF R C f))] w fun e w' => ∃ v, e = .returned v ∧ OwnMat w' w.heap.size w'.heap.size v (mkM R C f) ∧ Below w.heap.size w w' := by
  have hR := hI.r2; have hC := hI.c2; have hC1 := hI.c1
  have HI := hide hI
  clear hI
  go_enter Tryz.func63, Tryz.ntmps63
  go_wp2_with (first | (with_reducible refine wpList_boxVec 25 (imgF R C f) 1 rfl rfl (.tmp 0) rfl rfl ?_; intro w1 h1 b1 s1) | (with_reducible refine wpList_loadVec h1 7 rfl rfl _ rfl rfl Tryz.underlying70 Tryz.sizeImg ?_))
  have B1 := hide b1
  clear h1 b1 s1
  go_loopw [3, 8] (fun o i w' => ∃ (y : Nat) (v : Value), y ≤ 5 ∧ i = .int .i64 y ∧ v = o ∧ OwnMat w' w.heap.size w'.heap.size v (mkM (min y R) C f) ∧ Below w.heap.size w w') (fun _ i _ => 5 - (intOf i).toNat)
  case atStart => exact ⟨0, _, by omega, rfl, rfl, by rw [Nat.zero_min]; exact ownMat_nil _ _ _, B1.out⟩
  case round =>
    clear B1
    obtain ⟨y, v, hy, rfl, rfl, hown, hb⟩ := hrel
    have HO := hide hown; have HB := hide hb
    clear hown hb
    by_cases hlt : y < 5
    · have hyI : (y : Int) < 5 := by omega
      have HG := hide (imgF_row R C f y)
      have hsz := HB.out.size
      go_wp2_with (first | (with_reducible refine wpList_indexRow y 10 rfl rfl _ _ rfl rfl rfl Tryz.underlying70 Tryz.isAgg68 Tryz.sizeOf68 hlt (by omega) ?_) | (with_reducible refine wpList_allocVec 5 5 rfl rfl rfl Tryz.zeroRow ?_; intro w2 h2 b2 s2) | (with_reducible refine wpList_storeVec h2 rfl (.tmp 5) (.tmp 10) rfl rfl rfl Tryz.sizeRow ?_; intro w3 h3 g3 s3) | (with_reducible refine wpList_loadVec h3 11 rfl rfl _ rfl rfl Tryz.underlying68 Tryz.sizeRow ?_))
      have B3 := hide (HB.out.trans ((b2.mono hsz).trans (grown_below g3 (fun k hk => by cases hk; exact hsz) (by omega))))
      have O3 := hide (ownMat_block (ownMat_below HO.out b2) g3 (Nat.le_refl _))
      have H3 := hide h3
      have hs3 : w3.heap.size = wr.heap.size + 1 := by omega
      clear h2 b2 s2 h3 g3 s3
      by_cases hr : y < R
      · go_wp2_with fail
        refine (size_any _ C _ hC (fun j hj => ?_) ?_).mono ?_
        · rw [HG.out j (by omega), if_pos ⟨hr, hj⟩]
          rcases HI.out.cell y j hr hj with e | e <;> rw [e] <;> decide
        · by_cases e : C = 5
          · exact .inl e
          · right; rw [HG.out C (by omega), if_neg (by omega)]
        rintro e w4 ⟨rfl, b4⟩
        have H4 := hide (blk_below H3.out b4)
        have O4 := hide (ownMat_below O3.out b4)
        have B4 := hide (B3.out.trans (b4.mono (by omega)))
        have hs4 := b4.size
        clear b4
        have hpos : (0 : Int) < (C : Int) := by omega
        go_wp2_with (with_reducible refine wpList_sliceVec C 17 rfl rfl (.tmp 5) (.tmp 16) rfl rfl rfl Tryz.underlying68 Tryz.sizeOf3 hC ?_)
        refine (Tryz.slices_Clone_int wr.heap.size 0 C 5 (rowF C (f y)) _ (by rw [rowF_len]; exact Nat.le_refl _) (by omega) (fun j hj => ?_)).mono ?_
        · rw [rowF_len] at hj
          rw [Nat.zero_add, blk_cell H4.out j (by omega), HG.out j (by omega), if_pos ⟨hr, hj⟩, List.getD_eq_getElem?_getD, List.getElem?_eq_getElem (by rw [rowF_len]; exact hj), Option.getD_some, rowF_at]
        rintro e w5 ⟨u, rfl, hu, -, b5⟩
        have hu : w5.ownsRow w4.heap.size 3 1 u (rowF C (f y)).length (ints (rowF C (f y))) := by
          rw [rowF_len]
          have := hu
          rw [List.take_of_length_le (by rw [rowF_len]; exact Nat.le_refl _)] at this
          exact this
        obtain ⟨ua, uc, rfl⟩ := own_slice hu
        rw [rowF_len] at *
        have HU := hide hu
        have O5 := hide (ownMat_below O4.out b5)
        have B5 := hide (B4.out.trans (b5.mono (by omega)))
        have hs5 := b5.size
        clear hu b5
        have hmin : min y R = y := by omega
        rw [hmin] at O5
        clear hmin
        obtain ⟨vs, hv, hvh, hvr, hva⟩ := O5.out
        have hvl := mkM_len y C f
        rw [hvl] at hv
        have HV := hide hv; have HVH := hide hvh; have HVR := hide hvr; have HVA := hide hva
        clear hv hvh hvr hva hvl
        go_wp2_with (at_builtin; refine wpList_push HV.out (.slice ua C uc) (.slice none 0 0) rfl _ _ rfl Tryz.underlying23 Tryz.infoInts rfl (by decide) rfl rfl rfl (by omega) (by omega) ?_; intro v' w6 hown1 hb1 hg1)
        go_roundw
        case rel =>
          have hs6 := hb1.size
          have hp := ownMat_push (r := rowF C (f y)) (hi' := w6.heap.size) HVR.out HVA.out (by rw [mkM_len]; exact HV.out) (by rw [rowF_len]; exact own_base HU.out (by omega)) hsz (by omega) (by omega) hg1 (by rw [mkM_len]; exact hown1) (fun k e => (hown1.lt k e).2)
          rw [← mkM_succ, show y + 1 = min (y + 1) R by omega] at hp
          exact ⟨y + 1, _, by omega, by go_num, rfl, hp, B5.out.trans (hb1.mono (by omega))⟩
        case measure => simp [intOf]; omega
      · go_wp2_with fail
        refine (size_any _ 0 _ (by omega) (fun j hj => absurd hj (Nat.not_lt_zero _)) (.inr ?_)).mono ?_
        · rw [HG.out 0 (by omega), if_neg (by omega)]
        rintro e w4 ⟨rfl, b4⟩
        have O4 := hide (ownMat_below O3.out b4)
        have B4 := hide (B3.out.trans (b4.mono (by omega)))
        have hs4 := b4.size
        clear b4
        go_wp2
        go_roundw
        case rel =>
          have hp := ownMat_mono (hi' := w4.heap.size) O4.out (Nat.le_refl _) (by omega)
          rw [show min y R = min (y + 1) R by omega] at hp
          exact ⟨y + 1, _, by omega, by go_num, rfl, hp, B4.out⟩
        case measure => simp [intOf]; omega
    · have hmin : min y R = R := by omega
      rw [hmin] at HO
      clear hmin
      go_wp2
      go_ret
      exact ⟨_, rfl, HO.out, HB.out⟩
end Go.Proofs.YtpfaaglaeholbaaGreat
/-
  The program's images: cell, count, transposed, inverted, distance.
-/
namespace Go.Proofs.YtpfaaglaeholbaaGreat
open Go.RowKit

theorem row_below {w wr w2 w3 : World} (hb : Below w.heap.size w wr) (b2 : Below wr.heap.size wr w2) (g3 : w2.grownBy w3 (some wr.heap.size)) : Below w.heap.size w w3 :=
  hb.trans ((b2.mono hb.size).trans (grown_below g3 (fun k hk => by cases hk; exact hb.size) (Nat.le_trans hb.size b2.size)))
theorem row_blk {wr w2 w3 : World} {g n : Nat} {T : TypeId} {F : Nat → Int} (h : Blk wr g T n F) (b2 : Below wr.heap.size wr w2) (g3 : w2.grownBy w3 (some wr.heap.size)) : Blk w3 g T n F :=
  blk_grown (blk_below h b2) g3 (by have := blk_lt h; simp; omega)

set_option maxHeartbeats 400000 in
theorem cell_in (F : Nat → Int) (y x : Nat) (w : World) (hy : y < 5) (hx : x < 5) :
    Calls Tryz.prog 83 #[.agg (vec 25 F), .int .i64 y, .int .i64 x] w fun e w' => e = .returned (.int .i64 (F (5 * y + x))) ∧ Below w.heap.size w w' := by
  have hyI : (y : Int) < 5 := by omega
  have hxI : (x : Int) < 5 := by omega
  have HA : Hid (0 + y * 5 + x * 1 = 5 * y + x) := hide (by omega)
  have hlt : 5 * y + x < 25 := by omega
  go_enter Tryz.func83, Tryz.ntmps83
  go_wp2_with (first | (with_reducible refine wpList_boxVec 25 F 3 rfl rfl (.tmp 0) rfl rfl ?_; intro w1 h1 b1 s1; have hcl := blk_cell h1 (5 * y + x) hlt) | (with_reducible refine wpList_indexAt y 23 rfl rfl _ _ rfl rfl rfl Tryz.underlying70 Tryz.sizeOf68 hy ?_) | (with_reducible refine wpList_indexAt x 24 rfl rfl _ _ rfl rfl rfl Tryz.underlying68 Tryz.sizeOf3 hx ?_; rw [HA.out]))
  go_ret
  exact ⟨rfl, b1⟩
set_option maxHeartbeats 400000 in
theorem cell_out (F : Nat → Int) (y x : Int) (w : World) (h : y < 0 ∨ 5 ≤ y ∨ x < 0 ∨ 5 ≤ x) :
    Calls Tryz.prog 83 #[.agg (vec 25 F), .int .i64 y, .int .i64 x] w fun e w' => e = .returned (.int .i64 (-1)) ∧ Below w.heap.size w w' := by
  by_cases h1 : y < 0
  · clear h
    go_enter Tryz.func83, Tryz.ntmps83
    go_wp2_with (with_reducible refine wpList_boxVec 25 F 3 rfl rfl (.tmp 0) rfl rfl ?_; intro w1 h1 b1 s1)
    go_ret
    exact ⟨rfl, b1⟩
  · by_cases h2 : 5 ≤ y
    · clear h
      go_enter Tryz.func83, Tryz.ntmps83
      go_wp2_with (with_reducible refine wpList_boxVec 25 F 3 rfl rfl (.tmp 0) rfl rfl ?_; intro w1 h1 b1 s1)
      go_ret
      exact ⟨rfl, b1⟩
    · by_cases h3 : x < 0
      · clear h
        go_enter Tryz.func83, Tryz.ntmps83
        go_wp2_with (with_reducible refine wpList_boxVec 25 F 3 rfl rfl (.tmp 0) rfl rfl ?_; intro w1 h1 b1 s1)
        go_ret
        exact ⟨rfl, b1⟩
      · have h4 : 5 ≤ x := by omega
        clear h
        go_enter Tryz.func83, Tryz.ntmps83
        go_wp2_with (with_reducible refine wpList_boxVec 25 F 3 rfl rfl (.tmp 0) rfl rfl ?_; intro w1 h1 b1 s1)
        go_ret
        exact ⟨rfl, b1⟩

/-- The first y columns of the exchanged image, and x cells of the next one. -/
def upT (F : Nat → Int) (y x : Nat) (i : Nat) : Int := if i % 5 < y ∨ (i % 5 = y ∧ i / 5 < x) then F (5 * (i % 5) + i / 5) else 0
theorem upT_zero (F : Nat → Int) : upT F 0 0 = fun _ => 0 := by funext i; rw [upT, if_neg (by omega)]
theorem upT_set (F : Nat → Int) (y x : Nat) (hy : y < 5) : (fun j => if j = 5 * x + y then F (5 * y + x) else upT F y x j) = upT F y (x + 1) := by
  funext j
  simp only [upT]
  by_cases e : j = 5 * x + y
  · subst e
    rw [if_pos rfl, if_pos (by omega), show (5 * x + y) % 5 = y by omega, show (5 * x + y) / 5 = x by omega]
  · rw [if_neg e]
    by_cases hl : j % 5 < y ∨ (j % 5 = y ∧ j / 5 < x)
    · rw [if_pos hl, if_pos (by omega)]
    · rw [if_neg hl, if_neg (by omega)]
theorem upT_next (F : Nat → Int) (y : Nat) : ∀ i, i < 25 → upT F y 5 i = upT F (y + 1) 0 i := fun i hi => by
  simp only [upT]
  by_cases hl : i % 5 < y + 1
  · rw [if_pos (by omega), if_pos (by omega)]
  · rw [if_neg (by omega), if_neg (by omega)]
theorem upT_all (F : Nat → Int) : ∀ i, i < 25 → upT F 5 0 i = F (5 * (i % 5) + i / 5) := fun i hi => by rw [upT, if_pos (by omega)]

set_option maxHeartbeats 1000000 in
theorem transposed_any (F : Nat → Int) (w : World) :
    Calls Tryz.prog 62 #[.agg (vec 25 F)] w fun e w' => e = .returned (.agg (vec 25 fun i => F (5 * (i % 5) + i / 5))) ∧ Below w.heap.size w w' := by
  go_enter Tryz.func62, Tryz.ntmps62
  go_wp2_with (first | (with_reducible refine wpList_boxVec 25 F 1 rfl rfl (.tmp 0) rfl rfl ?_; intro w1 h1 b1 s1) | (with_reducible refine wpList_allocVec 25 2 rfl rfl rfl Tryz.zeroImg ?_; intro wa ha ba sa) | (with_reducible refine wpList_allocVec 25 3 rfl rfl rfl Tryz.zeroImg ?_; intro wb hb bb sb) | (with_reducible refine wpList_loadVec (blk_below (blk_below h1 ba) bb) 8 rfl rfl _ rfl rfl Tryz.underlying70 Tryz.sizeImg ?_))
  have B1 := hide (b1.trans ((ba.mono (by omega)).trans (bb.mono (by omega))))
  have HR := hide (blk_below ha bb)
  have HP := hide hb
  have hsz : w.heap.size + 2 < wb.heap.size := by omega
  rw [s1] at HR sa
  rw [sa] at HP
  rw [show w.heap.size + 1 + 1 = w.heap.size + 2 by omega] at HP
  clear h1 b1 ha ba hb bb sb s1 sa
  go_loopw [9] (fun i w' => ∃ y : Nat, y ≤ 5 ∧ i = .int .i64 y ∧ Blk w' (w.heap.size + 2) 70 25 (upT F y 0) ∧ Blk w' (w.heap.size + 1) 70 25 (fun _ => 0) ∧ Below w.heap.size w w') (fun i _ => 5 - (intOf i).toNat)
  case atStart => exact ⟨0, by omega, rfl, by rw [upT_zero]; exact HP.out, HR.out, B1.out⟩
  case round =>
    clear B1 HP HR hsz
    obtain ⟨y, hy, rfl, hp, hr, hb⟩ := hrel
    have HP := hide hp; have HR := hide hr; have HB := hide hb
    clear hp hr hb
    by_cases hlt : y < 5
    · have hyI : (y : Int) < 5 := by omega
      go_wp2_with (first | (with_reducible refine wpList_indexRow y 12 rfl rfl _ _ rfl rfl rfl Tryz.underlying70 Tryz.isAgg68 Tryz.sizeOf68 hlt (by omega) ?_) | (with_reducible refine wpList_allocVec 5 5 rfl rfl rfl Tryz.zeroRow ?_; intro w2 h2 b2 s2) | (with_reducible refine wpList_storeVec h2 rfl (.tmp 5) (.tmp 12) rfl rfl rfl Tryz.sizeRow ?_; intro w3 h3 g3 s3) | (with_reducible refine wpList_loadVec h3 13 rfl rfl _ rfl rfl Tryz.underlying68 Tryz.sizeRow ?_))
      have B3 := hide (row_below HB.out b2 g3)
      have P3 := hide (row_blk HP.out b2 g3)
      have R3 := hide (row_blk HR.out b2 g3)
      clear h2 b2 s2 h3 g3 s3
      go_loopw [14] (fun i w' => ∃ x : Nat, x ≤ 5 ∧ i = .int .i64 x ∧ Blk w' (w.heap.size + 2) 70 25 (upT F y x) ∧ Blk w' (w.heap.size + 1) 70 25 (fun _ => 0) ∧ Below w.heap.size w w') (fun i _ => 5 - (intOf i).toNat)
      case atStart => exact ⟨0, by omega, rfl, P3.out, R3.out, B3.out⟩
      case round =>
        clear B3 P3 R3 HB HP HR
        obtain ⟨x, hx, rfl, hp, hr, hb⟩ := hrel
        have HP := hide hp; have HR := hide hr; have HB := hide hb
        clear hp hr hb
        by_cases hlx : x < 5
        · have hxI : (x : Int) < 5 := by omega
          have HS := hide (upT_set F y x hlt)
          have hcl := blk_cell HP.out (5 * x + y) (by omega)
          have hfr := blk_frozen HP.out (5 * x + y)
          have HA : Hid (0 + x * 5 + y * 1 = 5 * x + y) := hide (by omega)
          have HE : Hid (y * 5 + x = 5 * y + x) := hide (by omega)
          go_wp2_with (first | (with_reducible refine wpList_indexVec x 17 rfl rfl _ _ rfl rfl rfl Tryz.underlying68 Tryz.isAgg3 Tryz.sizeOf3 hlx ?_; rw [HE.out]) | (with_reducible refine wpList_indexAt x 21 rfl rfl _ _ rfl rfl rfl Tryz.underlying70 Tryz.sizeOf68 hlx ?_) | (with_reducible refine wpList_indexAt y 22 rfl rfl _ _ rfl rfl rfl Tryz.underlying68 Tryz.sizeOf3 hlt ?_; rw [HA.out]))
          go_roundw
          case rel => exact ⟨x + 1, by omega, by go_num, by have := blk_set HP.out (5 * x + y) (F (5 * y + x)); rw [HS.out] at this; exact this, blk_other HR.out _ _ (by simp), HB.out.setCell (by show w.heap.size ≤ w.heap.size + 2; omega) _⟩
          case measure => simp [intOf]; omega
        · obtain rfl : x = 5 := by omega
          go_wp2
          go_roundw
          case rel => exact ⟨y + 1, by omega, by go_num, blk_congr HP.out (upT_next F y), HR.out, HB.out⟩
          case measure => simp [intOf]; omega
    · obtain rfl : y = 5 := by omega
      have HP := hide (blk_congr HP.out (upT_all F))
      go_wp2_with (first | (with_reducible refine wpList_loadVec HP.out 25 rfl rfl _ rfl rfl Tryz.underlying70 Tryz.sizeImg ?_) | (with_reducible refine wpList_storeVec HR.out rfl (.tmp 2) (.tmp 25) rfl rfl rfl Tryz.sizeImg ?_; intro w4 h4 g4 s4))
      refine bodyPost_ret (results_vec rfl _ _ (w.heap.size + 1) 25 _ 70 _ _ rfl h4 Tryz.underlying70 Tryz.sizeImg) rfl ⟨rfl, ?_⟩
      exact HB.out.trans (grown_below g4 (fun k hk => by cases hk; exact Nat.le_succ _) HB.out.size)
end Go.Proofs.YtpfaaglaeholbaaGreat
/-
  Worlds that have grown: some draws, some blocks laid behind.
-/
namespace Go.Proofs.YtpfaaglaeholbaaGreat
open Go.RowKit

/-- After some draws, with some blocks laid behind. -/
def GrownW (w w' : World) : Prop := ∃ q os, w' = Go.Sort.grow (w.drewN q) os
theorem grownW_refl (w : World) : GrownW w w := ⟨0, #[], by rw [Go.Sort.grow_empty]; rfl⟩
theorem grownW_grow (w : World) (q : Nat) (os : Array Obj) : GrownW w (Go.Sort.grow (w.drewN q) os) := ⟨q, os, rfl⟩
theorem grownW_trans {a b c : World} (h : GrownW a b) (k : GrownW b c) : GrownW a c := by
  obtain ⟨q, os, rfl⟩ := h
  obtain ⟨p, os', rfl⟩ := k
  exact ⟨q + p, os ++ os', by show Go.Sort.grow (Go.Sort.grow ((a.drewN q).drewN p) os) os' = _; rw [Go.Sort.grow_grow, World.drewN_drewN]⟩
theorem grownW_alloc (w : World) (o : Obj) : GrownW w (w.alloc o) := ⟨0, #[o], by rw [Go.Sort.alloc_eq_grow]; rfl⟩
theorem grownW_below {w w' : World} (h : GrownW w w') : Below w.heap.size w w' := by
  obtain ⟨q, os, rfl⟩ := h
  refine ⟨rfl, rfl, rfl, ?_, fun k hk => ?_⟩
  · show w.heap.size ≤ (w.heap ++ os).size
    rw [Array.size_append]; omega
  · show (w.heap ++ os)[k]? = _
    rw [Array.getElem?_append_left hk]
theorem quiet_of {P : Program} {f : FuncId} {args : Array Value} {w : World} {n : Nat} {os : Array Obj} {v : Value} (h : Calls P f args (Go.Sort.grow (w.drewN n) os) fun e w' => e = .returned v ∧ GrownW (Go.Sort.grow (w.drewN n) os) w') :
    Calls P f args (Go.Sort.grow (w.drewN n) os) fun e w'' => e = .returned v ∧ ∃ p : GrownBy, w'' = Go.Sort.grow (w.drewN p.n) p.os := Calls.grown_of h
end Go.Proofs.YtpfaaglaeholbaaGreat
/-
  Switches as values and in variables; a cell of an image; whether a switch is one of an image.
-/
namespace Go.Proofs.YtpfaaglaeholbaaGreat
open Go.RowKit

def swA (s : Sw) : Array Value := #[.int .i64 s.y1, .int .i64 s.y2, .int .i64 s.x1, .int .i64 s.x2]
def swV (s : Sw) : Value := .agg (swA s)
/-- A switch in a variable. -/
def SwAt (w : World) (g : Nat) (s : Sw) : Prop := w.heap[g]? = some (.cells (swA s) 111 (0, 0))
theorem swAt_lt {w : World} {g : Nat} {s : Sw} (h : SwAt w g s) : g < w.heap.size := (Array.getElem?_eq_some_iff.1 h).1
theorem swAt_below {w w' : World} {g : Nat} {s : Sw} (h : SwAt w g s) (hb : Below w.heap.size w w') : SwAt w' g s := by
  unfold SwAt; rw [hb.block g (swAt_lt h)]; exact h
theorem swAt_grown {w w' : World} {g : Nat} {s : Sw} {row : Option Nat} (h : SwAt w g s) (hg : w.grownBy w' row) (hr : row ≠ some g) : SwAt w' g s := by
  unfold SwAt; rw [hg.block g (swAt_lt h) (Ne.symm hr)]; exact h
theorem swAt_cells {w : World} {g : Nat} {s : Sw} (h : SwAt w g s) : w.cell? ⟨g, 0, none⟩ = some (.int .i64 s.y1) ∧ w.cell? ⟨g, 1, none⟩ = some (.int .i64 s.y2) ∧ w.cell? ⟨g, 2, none⟩ = some (.int .i64 s.x1) ∧ w.cell? ⟨g, 3, none⟩ = some (.int .i64 s.x2) :=
  ⟨by rw [cell_of_row w g 0 _ _ _ h]; rfl, by rw [cell_of_row w g 1 _ _ _ h]; rfl, by rw [cell_of_row w g 2 _ _ _ h]; rfl, by rw [cell_of_row w g 3 _ _ _ h]; rfl⟩
theorem Tryz.sizeSw : (Tryz.prog.info? 111).map (·.size) = some 4 := by kernel_rfl
theorem swA_size (s : Sw) : (swA s).size = 4 := rfl
theorem swA_one (s : Sw) : (swA s).all (·.oneCell') = true := by simp [swA, Value.oneCell']
theorem wpList_loadSw {ops : Array Oper} {rest : List Oper} {o : Oper} {a : Act} {Q : Exit → Act → World → Prop} {W : World} {g : Nat} {s : Sw} (hb : SwAt W g s)
    (d : Tmp) (_hd : o.dst = some d) (hgd : o.guard = none) (x : Operand) (ho : o.op = .load 111 x) (hx : a.eval x = .pointer (some ⟨g, 0, none⟩))
    (h : wpList Tryz.prog ops Q rest (a.put o.dst (swV s)) W) : wpList Tryz.prog ops Q (o :: rest) a W :=
  wpList_load_row hgd _ x ho g hx _ _ (0, 0) _ hb Tryz.underlying111 rfl Tryz.sizeSw h
theorem exec_loadSw {ρ : Operand → Value} {o : Oper} {w : World} {x : Operand} {g : Nat} {s : Sw} (ho : o.op = .load 111 x) (hx : ρ x = .pointer (some ⟨g, 0, none⟩)) (hb : SwAt w g s) : (execOp ρ o).run Tryz.prog w = .ok (.value (swV s)) w := by
  unfold execOp
  simp only [ho, hx]
  have hc := swAt_cells hb
  obtain ⟨h0, h1, h2, h3⟩ := hc
  go_simp
  rfl
theorem swAt_new (w : World) (s : Sw) : SwAt (w.alloc (.cells (swA s) 111)) w.heap.size s := heap_alloc_new w _
/-- A switch goes into a new variable. -/
theorem wpList_boxSw {P : Program} {ops : Array Oper} {rest : List Oper} {o : Oper} {a : Act} {Q : Exit → Act → World → Prop} {W : World} (s : Sw)
    (d : Tmp) (_hd : o.dst = some d) (hgd : o.guard = none) (x : Operand) (ho : o.op = .box 111 x) (hx : a.eval x = swV s)
    (h : ∀ w', SwAt w' W.heap.size s → Below W.heap.size W w' → w'.heap.size = W.heap.size + 1 → wpList P ops Q rest (a.put o.dst (.pointer (some ⟨W.heap.size, 0, none⟩))) w') : wpList P ops Q (o :: rest) a W := by
  refine wpList_plain hgd fun K hK => ?_
  unfold Oper.wp execOp
  simp only [ho, hx, Instr.box, Sem.run_bind]
  simp [newVar, newRow, Value.cells, swV]
  exact hK _ _ (h _ (swAt_new W s) ((Below.refl _ _).alloc (Nat.le_refl _) _) (by simp))

/-- The cell of five rows of five, -1 outside. -/
def cellF (F : Nat → Int) (y x : Int) : Int := if 0 ≤ y ∧ y < 5 ∧ 0 ≤ x ∧ x < 5 then F (5 * y.toNat + x.toNat) else -1
theorem cell_any (F : Nat → Int) (y x : Int) (w : World) :
    Calls Tryz.prog 83 #[.agg (vec 25 F), .int .i64 y, .int .i64 x] w fun e w' => e = .returned (.int .i64 (cellF F y x)) ∧ Below w.heap.size w w' := by
  by_cases h : y < 0 ∨ 5 ≤ y ∨ x < 0 ∨ 5 ≤ x
  · have := cell_out F y x w h
    rw [cellF, if_neg (by omega)]; exact this
  · obtain ⟨a, rfl⟩ : ∃ a : Nat, y = a := ⟨y.toNat, by omega⟩
    obtain ⟨b, rfl⟩ : ∃ b : Nat, x = b := ⟨x.toNat, by omega⟩
    have := cell_in F a b w (by omega) (by omega)
    rw [cellF, if_pos (by omega)]; exact this
/-- Whether the switch is one of the image. -/
def hasF (F : Nat → Int) (s : Sw) : Bool :=
  decide (s.y1 < s.y2) && decide (s.x1 < s.x2) && decide (cellF F s.y1 s.x1 ≠ cellF F s.y1 s.x2) && decide (cellF F s.y2 s.x1 = cellF F s.y1 s.x2) && decide (cellF F s.y2 s.x2 = cellF F s.y1 s.x1)
theorem cellF_img {R C : Nat} {f : Nat → Nat → Int} (h : Img R C f) (y x : Int) : cellF (imgF R C f) y x = if 0 ≤ y ∧ y < R ∧ 0 ≤ x ∧ x < C then f y.toNat x.toNat else -1 := by
  have hR := h.r2; have hC := h.c2
  unfold cellF
  by_cases h0 : 0 ≤ y ∧ y < 5 ∧ 0 ≤ x ∧ x < 5
  · rw [if_pos h0, imgF_at _ _ _ _ _ (by omega)]
    by_cases h1 : 0 ≤ y ∧ y < R ∧ 0 ≤ x ∧ x < C
    · rw [if_pos (by omega), if_pos h1]
    · rw [if_neg (by omega), if_neg h1]
  · rw [if_neg h0, if_neg (by omega)]
theorem hasF_img {R C : Nat} {f : Nat → Nat → Int} (h : Img R C f) (s : Sw) : hasF (imgF R C f) s = swF R C f s := by
  have hR := h.r2; have hC := h.c2
  obtain ⟨y1, y2, x1, x2⟩ := s
  rw [Bool.eq_iff_iff]
  simp only [hasF, cellF_img h, swF, four, Bool.and_eq_true, decide_eq_true_eq]
  by_cases hh : (0 ≤ y1 ∧ 0 ≤ x1) ∧ y1 < y2 ∧ x1 < x2
  · obtain ⟨⟨h1, h2⟩, h3, h4⟩ := hh
    obtain ⟨a, rfl⟩ : ∃ a : Nat, y1 = a := ⟨y1.toNat, by omega⟩
    obtain ⟨b, rfl⟩ : ∃ b : Nat, y2 = b := ⟨y2.toNat, by omega⟩
    obtain ⟨c, rfl⟩ : ∃ c : Nat, x1 = c := ⟨x1.toNat, by omega⟩
    obtain ⟨d, rfl⟩ : ∃ d : Nat, x2 = d := ⟨x2.toNat, by omega⟩
    simp only [Int.toNat_natCast]
    by_cases hb : b < R ∧ d < C
    · obtain ⟨hb, hd⟩ := hb
      have e1 := h.cell a c (by omega) (by omega); have e2 := h.cell a d (by omega) (by omega); have e3 := h.cell b c (by omega) (by omega); have e4 := h.cell b d (by omega) (by omega)
      rw [if_pos (by omega), if_pos (by omega), if_pos (by omega), if_pos (by omega)]
      omega
    · constructor
      · intro hx
        exfalso
        obtain ⟨⟨⟨⟨-, -⟩, g1⟩, g2⟩, g3⟩ := hx
        rw [if_neg (show ¬ (0 ≤ (b : Int) ∧ (b : Int) < R ∧ 0 ≤ (d : Int) ∧ (d : Int) < C) by omega)] at g3
        by_cases hc : a < R ∧ c < C
        · have := h.cell a c hc.1 hc.2
          rw [if_pos (by omega)] at g3
          omega
        · rw [if_neg (show ¬ (0 ≤ (a : Int) ∧ (a : Int) < R ∧ 0 ≤ (c : Int) ∧ (c : Int) < C) by omega)] at g1
          rw [if_neg (by omega)] at g1
          exact g1 rfl
      · rintro ⟨-, h5⟩; omega
  · constructor
    · intro hx
      exfalso
      obtain ⟨⟨⟨⟨k1, k2⟩, g1⟩, g2⟩, g3⟩ := hx
      have hn : ¬ (0 ≤ y1 ∧ 0 ≤ x1) := fun e => hh ⟨e, k1, k2⟩
      rw [if_neg (show ¬ (0 ≤ y1 ∧ y1 < R ∧ 0 ≤ x1 ∧ x1 < C) by omega)] at g1 g3
      split at g1 <;> split at g3 <;> split at g2 <;> first | omega | skip
      all_goals first | (exact g1 rfl) | skip
      all_goals (rename_i q1 q2 q3; omega)
    · rintro ⟨⟨⟨⟨k1, k2⟩, k3⟩, k4⟩, -⟩
      exact absurd ⟨⟨k1, k2⟩, k3, k4⟩ hh
end Go.Proofs.YtpfaaglaeholbaaGreat
/-
  Lists of switches in memory.
-/
namespace Go.Proofs.YtpfaaglaeholbaaGreat
open Go.RowKit

def cellsS (l : List Sw) : List Value := l.flatMap fun s => [.int .i64 s.y1, .int .i64 s.y2, .int .i64 s.x1, .int .i64 s.x2]
theorem cellsS_len (l : List Sw) : (cellsS l).length = l.length * 4 := by
  induction l with
  | nil => rfl
  | cons s l ih =>
    simp only [cellsS, List.flatMap_cons, List.length_append, List.length_cons, List.length_nil] at ih ⊢
    omega
theorem cellsS_snoc (l : List Sw) (s : Sw) : cellsS (l ++ [s]) = cellsS l ++ (swA s).toList := by
  simp [cellsS, swA]
theorem cellsS_at : ∀ (l : List Sw) (i : Nat) (h : i < l.length), (cellsS l)[i * 4]? = some (.int .i64 l[i].y1) ∧ (cellsS l)[i * 4 + 1]? = some (.int .i64 l[i].y2) ∧ (cellsS l)[i * 4 + 2]? = some (.int .i64 l[i].x1) ∧ (cellsS l)[i * 4 + 3]? = some (.int .i64 l[i].x2)
  | [], i, h => absurd h (Nat.not_lt_zero _)
  | s :: l, 0, _ => ⟨rfl, rfl, rfl, rfl⟩
  | s :: l, i + 1, h => by
    have := cellsS_at l i (by simpa using h)
    have e : cellsS (s :: l) = [.int .i64 s.y1, .int .i64 s.y2, .int .i64 s.x1, .int .i64 s.x2] ++ cellsS l := by simp [cellsS]
    rw [e]
    simp only [List.getElem_cons_succ]
    refine ⟨?_, ?_, ?_, ?_⟩
    · rw [List.getElem?_append_right (by simp; omega)]
      simpa [show (i + 1) * 4 - 4 = i * 4 by omega] using this.1
    · rw [List.getElem?_append_right (by simp; omega)]
      simpa [show (i + 1) * 4 + 1 - 4 = i * 4 + 1 by omega] using this.2.1
    · rw [List.getElem?_append_right (by simp; omega)]
      simpa [show (i + 1) * 4 + 2 - 4 = i * 4 + 2 by omega] using this.2.2.1
    · rw [List.getElem?_append_right (by simp; omega)]
      simpa [show (i + 1) * 4 + 3 - 4 = i * 4 + 3 by omega] using this.2.2.2
/-- The four cells of a switch. -/
def SwC (w : World) (g k : Nat) (s : Sw) : Prop := w.cell? ⟨g, k, none⟩ = some (.int .i64 s.y1) ∧ w.cell? ⟨g, k + 1, none⟩ = some (.int .i64 s.y2) ∧ w.cell? ⟨g, k + 2, none⟩ = some (.int .i64 s.x1) ∧ w.cell? ⟨g, k + 3, none⟩ = some (.int .i64 s.x2)
theorem swC_below {w w' : World} {g k : Nat} {s : Sw} (h : SwC w g k s) (hb : Below w.heap.size w w') (hg : g < w.heap.size) : SwC w' g k s :=
  ⟨below_cell hb hg h.1, below_cell hb hg h.2.1, below_cell hb hg h.2.2.1, below_cell hb hg h.2.2.2⟩
theorem swC_at {w : World} {g : Nat} {s : Sw} (h : SwAt w g s) : SwC w g 0 s := swAt_cells h
theorem wpList_loadSwC {ops : Array Oper} {rest : List Oper} {o : Oper} {a : Act} {Q : Exit → Act → World → Prop} {W : World} {g k : Nat} {s : Sw} (hb : SwC W g k s)
    (d : Tmp) (_hd : o.dst = some d) (hgd : o.guard = none) (x : Operand) (ho : o.op = .load 111 x) (hx : a.eval x = .pointer (some ⟨g, k, none⟩))
    (h : wpList Tryz.prog ops Q rest (a.put o.dst (swV s)) W) : wpList Tryz.prog ops Q (o :: rest) a W := by
  obtain ⟨h0, h1, h2, h3⟩ := hb
  refine wpList_plain hgd fun K hK => ?_
  have : (execOp a.eval o).run Tryz.prog W = .ok (.value (swV s)) W := by
    unfold execOp
    simp only [ho, hx]
    go_simp
    rfl
  unfold Oper.wp
  rw [this]
  exact hK _ _ h
theorem Tryz.zeroSwV (w : World) : (zeroValue 111).run Tryz.prog w = .ok (swV zeroSw) w := Tryz.zeroValue111 w
theorem wpList_allocSw {ops : Array Oper} {rest : List Oper} {o : Oper} {a : Act} {Q : Exit → Act → World → Prop} {W : World}
    (d : Tmp) (_hd : o.dst = some d) (hgd : o.guard = none) (ho : o.op = .alloc 111)
    (h : ∀ w', SwAt w' W.heap.size zeroSw → Below W.heap.size W w' → w'.heap.size = W.heap.size + 1 → wpList Tryz.prog ops Q rest (a.put o.dst (.pointer (some ⟨W.heap.size, 0, none⟩))) w') : wpList Tryz.prog ops Q (o :: rest) a W := by
  refine wpList_plain hgd fun K hK => ?_
  unfold Oper.wp execOp
  simp only [ho, Instr.alloc, Sem.run_bind, Tryz.zeroSwV, Result.andThen_ok]
  simp [newVar, newRow, Value.cells, swV]
  exact hK _ _ (h _ (swAt_new W zeroSw) ((Below.refl _ _).alloc (Nat.le_refl _) _) (by simp))
theorem wpList_storeSw {ops : Array Oper} {rest : List Oper} {o : Oper} {a : Act} {Q : Exit → Act → World → Prop} {W : World} {g : Nat} {s0 : Sw} (hb : SwAt W g s0) (s : Sw)
    (hgd : o.guard = none) (x y : Operand) (ho : o.op = .store 111 x y) (hx : a.eval x = .pointer (some ⟨g, 0, none⟩)) (hy : a.eval y = swV s)
    (h : ∀ w', SwAt w' g s → W.grownBy w' (some g) → w'.heap.size = W.heap.size → wpList Tryz.prog ops Q rest (a.put o.dst undef) w') : wpList Tryz.prog ops Q (o :: rest) a W := by
  refine wpList_plain hgd fun K hK => ?_
  unfold Oper.wp execOp
  simp only [ho, hx, hy, swV, Instr.storeAt, Instr.sureAddr, Sem.run_bind, Sem.run_pure, Result.andThen_ok, run_storeVar_row W g 111 111 (swA s0) (swA s) hb (by rw [Tryz.sizeSw]; rfl) rfl (swA_one s)]
  exact hK _ _ (h _ (setRow_heap W g _ _ _ (0, 0) hb) ⟨rfl, rfl, rfl, by simp, fun k hk hr => setRow_other W g k _ (fun e => hr (by rw [e]))⟩ (by simp))
/-- The slice v reads as the switches l. -/
def InSws (w : World) (v : Value) (l : List Sw) : Prop :=
  ∃ a c, v = .slice a l.length c ∧ l.length ≤ maxLen ∧ (l.length = 0 ∨ ∃ g o, a = some ⟨g, o, none⟩ ∧ g < w.heap.size ∧ ∀ i, (h : i < l.length) → SwC w g (o + i * 4) l[i])
theorem inSws_below {w w' : World} {v : Value} {l : List Sw} (h : InSws w v l) (hb : Below w.heap.size w w') : InSws w' v l := by
  obtain ⟨a, c, hv, hm, hp⟩ := h
  refine ⟨a, c, hv, hm, ?_⟩
  rcases hp with h0 | ⟨g, o, ha, hg, hc⟩
  · exact .inl h0
  · exact .inr ⟨g, o, ha, Nat.lt_of_lt_of_le hg hb.size, fun i hi => swC_below (hc i hi) hb hg⟩
theorem inSws_nil (w : World) : InSws w (.slice none 0 0) [] := ⟨none, 0, rfl, Nat.zero_le _, .inl rfl⟩
/-- The call owns the switches. -/
def OwnSws (w : World) (lo : Nat) (v : Value) (l : List Sw) : Prop := w.ownsRow lo 111 4 v l.length (cellsS l)
theorem ownSws_below {w w' : World} {lo : Nat} {v : Value} {l : List Sw} (h : OwnSws w lo v l) (hb : Below w.heap.size w w') : OwnSws w' lo v l := ownA_below h hb
theorem ownSws_base {w : World} {lo lo' : Nat} {v : Value} {l : List Sw} (h : OwnSws w lo v l) (hb : lo' ≤ lo) : OwnSws w lo' v l := ownA_base h hb
theorem ownSws_nil (w : World) (lo : Nat) : OwnSws w lo (.slice none 0 0) [] := World.ownsRow_nil _ _ _ _
theorem ownSws_cells {w : World} {lo g n c : Nat} {l : List Sw} (h : OwnSws w lo (.slice (some ⟨g, 0, none⟩) n c) l) (i : Nat) (hi : i < l.length) : SwC w g (i * 4) l[i] := by
  have hn : n = l.length := by
    rcases h.2 with ⟨e, _⟩ | ⟨g', cap, cur, e, _⟩
    · cases e
    · cases e; rfl
  subst hn
  obtain ⟨h0, h1, h2, h3⟩ := cellsS_at l i hi
  exact ⟨by rw [World.ownsRow.cellAt h _ (by omega)]; exact h0, by rw [World.ownsRow.cellAt h _ (by omega)]; exact h1, by rw [World.ownsRow.cellAt h _ (by omega)]; exact h2, by rw [World.ownsRow.cellAt h _ (by omega)]; exact h3⟩
theorem inSws_own {w : World} {lo : Nat} {v : Value} {l : List Sw} (h : OwnSws w lo v l) : InSws w v l := by
  have h' := h
  rcases h.2 with ⟨rfl, h0⟩ | ⟨g, cap, cur, rfl, hbg, hg, hc, hm, _⟩
  · exact ⟨none, 0, by rw [h0], by omega, .inl h0⟩
  · exact ⟨_, _, rfl, by omega, .inr ⟨g, 0, rfl, (Array.getElem?_eq_some_iff.1 hg).1, fun i hi => by rw [Nat.zero_add]; exact ownSws_cells h' i hi⟩⟩
theorem Tryz.infoSw : (Tryz.prog.info? 111).map (fun i => (i.zero, i.size, i.bytes)) = some (some (.agg #[.int .i64 0, .int .i64 0, .int .i64 0, .int .i64 0]), 4, 32) := by kernel_rfl
/-- The call answers switches of its own. -/
def SwsRes (l : List Sw) (w : World) (e : Ending) (w' : World) : Prop := ∃ v, e = .returned v ∧ OwnSws w' w.heap.size v l ∧ Below w.heap.size w w'
end Go.Proofs.YtpfaaglaeholbaaGreat
/-
  hasSwitch of the program.
-/
namespace Go.Proofs.YtpfaaglaeholbaaGreat
open Go.RowKit

theorem exec_loadVec {P : Program} {ρ : Operand → Value} {o : Oper} {w : World} {x : Operand} {g n m : Nat} {T T' e : TypeId} {F : Nat → Int} (ho : o.op = .load T' x) (hx : ρ x = .pointer (some ⟨g, 0, none⟩)) (hb : Blk w g T n F) (hu : P.underlying T' = some (.array m e)) (hi : (P.info? T').map (·.size) = some n) :
    (execOp ρ o).run P w = .ok (.value (.agg (vec n F))) w := by
  unfold execOp
  simp only [ho, hx, Instr.loadAt, Instr.sureAddr, Sem.run_bind, Sem.run_pure, Result.andThen_ok, run_loadVar_row w g T T' (vec n F) (0, 0) _ hb hu rfl (by rw [hi, vec_size])]
/-- The whole variable is read, where a guard asks for it. -/
theorem wpList_loadVecW {P : Program} {ops : Array Oper} {rest : List Oper} {o : Oper} {a : Act} {Q : Exit → Act → World → Prop} {W : World} {g n m : Nat} {T T' e : TypeId} {F : Nat → Int} (hb : Blk W g T n F)
    (d : Tmp) (_hd : o.dst = some d) (j : Nat) (want : Bool) (hg : o.guard = some (j, want)) (b : Bool) (hy : yielded ops a.tmps j = some b) (hw : b = want) (x : Operand) (ho : o.op = .load T' x) (hx : a.eval x = .pointer (some ⟨g, 0, none⟩)) (hu : P.underlying T' = some (.array m e)) (hi : (P.info? T').map (·.size) = some n)
    (h : wpList P ops Q rest (a.put o.dst (.agg (vec n F))) W) : wpList P ops Q (o :: rest) a W :=
  wpList_step fun K hK => by rw [if_pos (show Region.wanted o (yielded ops a.tmps) = true by unfold Region.wanted; rw [hg]; simp only [hy, hw, beq_self_eq_true])]; exact wp_load_row T' x ho g hx T (vec n F) (0, 0) _ hb hu rfl (by rw [hi, vec_size]) (hK _ _ h)
theorem exec_fieldSw {ρ : Operand → Value} {o : Oper} {w : World} {x : Operand} {g k : Nat} (ho : o.op = .fieldAddr 111 x k) (hx : ρ x = .pointer (some ⟨g, 0, none⟩)) (hk : k < 4) : (execOp ρ o).run Tryz.prog w = .ok (.value (.pointer (some ⟨g, k, none⟩))) w := by
  unfold execOp
  simp only [ho, hx]
  have : k = 0 ∨ k = 1 ∨ k = 2 ∨ k = 3 := by omega
  rcases this with rfl | rfl | rfl | rfl <;> go_simp
theorem exec_loadInt {ρ : Operand → Value} {o : Oper} {w : World} {x : Operand} {g k : Nat} {z : Int} (ho : o.op = .load 3 x) (hx : ρ x = .pointer (some ⟨g, k, none⟩)) (hc : w.cell? ⟨g, k, none⟩ = some (.int .i64 z)) : (execOp ρ o).run Tryz.prog w = .ok (.value (.int .i64 z)) w := by
  unfold execOp
  simp only [ho, hx]
  go_simp
set_option maxHeartbeats 1000000 in
theorem hasSwitch_no (F : Nat → Int) (s : Sw) (w : World) (h : ¬ (s.y1 < s.y2 ∧ s.x1 < s.x2)) :
    Calls Tryz.prog 122 #[.agg (vec 25 F), swV s] w fun e w' => e = .returned (.bool (hasF F s)) ∧ Below w.heap.size w w' := by
  have HN : Hid (hasF F s = false) := hide (by
    unfold hasF
    by_cases e : s.y1 < s.y2
    · rw [decide_eq_false (show ¬ s.x1 < s.x2 from fun e2 => h ⟨e, e2⟩)]; simp
    · rw [decide_eq_false e]; simp)
  rw [HN.out]
  go_enter Tryz.func122, Tryz.ntmps122
  go_wp2_with (first | (with_reducible refine wpList_boxVec 25 F 2 rfl rfl (.tmp 0) rfl rfl ?_; intro w1 h1 b1 s1) | (with_reducible refine wpList_boxSw s 3 rfl rfl (.tmp 1) rfl rfl ?_; intro w2 h2 b2 s2; have hb1 := blk_below h1 b2; have hbw := b1.trans (b2.mono b1.size); rw [s1] at h2 s2 ⊢; clear h1 b1 s1 b2; obtain ⟨c0, c1, c2, c3⟩ := swAt_cells h2))
  all_goals first
    | (exfalso; omega)
    | (go_ret; exact ⟨rfl, hbw⟩)
set_option maxRecDepth 100000 in
set_option maxHeartbeats 2000000 in
theorem hasSwitch_yes (F : Nat → Int) (s : Sw) (w : World) (h1' : s.y1 < s.y2) (h2' : s.x1 < s.x2) :
    Calls Tryz.prog 122 #[.agg (vec 25 F), swV s] w fun e w' => e = .returned (.bool (hasF F s)) ∧ Below w.heap.size w w' := by
  have HH : Hid (hasF F s = (decide (cellF F s.y1 s.x1 ≠ cellF F s.y1 s.x2) && decide (cellF F s.y2 s.x1 = cellF F s.y1 s.x2) && decide (cellF F s.y2 s.x2 = cellF F s.y1 s.x1))) := hide (by
    unfold hasF; rw [decide_eq_true h1', decide_eq_true h2']; simp)
  rw [HH.out]
  obtain ⟨A, hA⟩ : ∃ A, A = cellF F s.y1 s.x1 := ⟨_, rfl⟩
  obtain ⟨B, hB⟩ : ∃ B, B = cellF F s.y1 s.x2 := ⟨_, rfl⟩
  obtain ⟨C, hC⟩ : ∃ C, C = cellF F s.y2 s.x1 := ⟨_, rfl⟩
  obtain ⟨D, hD⟩ : ∃ D, D = cellF F s.y2 s.x2 := ⟨_, rfl⟩
  have HA := hide hA; have HB := hide hB; have HC := hide hC; have HD := hide hD
  rw [← hA, ← hB, ← hC, ← hD]
  clear hA hB hC hD HH
  go_enter Tryz.func122, Tryz.ntmps122
  go_wp2_with (first | (with_reducible refine wpList_boxVec 25 F 2 rfl rfl (.tmp 0) rfl rfl ?_; intro w1 h1 b1 s1) | (with_reducible refine wpList_boxSw s 3 rfl rfl (.tmp 1) rfl rfl ?_; intro w2 h2 b2 s2; have hb1 := blk_below h1 b2; have hbw := b1.trans (b2.mono b1.size); rw [s1] at h2 s2 ⊢; clear h1 b1 s1 b2; obtain ⟨c0, c1, c2, c3⟩ := swAt_cells h2))
  obtain ⟨fs, hfs⟩ : ∃ fs : List FactP, fs = [isV (.agg (vec 25 F)), isV (.pointer (some ⟨w.heap.size + 1, 0, none⟩)), isV (.int .i64 s.y1), isV (.pointer (some ⟨w.heap.size + 1, 2, none⟩)), isV (.int .i64 s.x1), isV (.int .i64 A), isV (.agg (vec 25 F)), isV (.pointer (some ⟨w.heap.size + 1, 0, none⟩)), isV (.int .i64 s.y1), isV (.pointer (some ⟨w.heap.size + 1, 3, none⟩)), isV (.int .i64 s.x2), isV (.int .i64 B), isV (.int .i64 A)] := ⟨_, rfl⟩
  have hst : ∀ f ∈ fs, StableP f := by
    rw [hfs]; intro f hf
    simp only [List.mem_cons, List.not_mem_nil, or_false] at hf
    rcases hf with rfl | rfl | rfl | rfl | rfl | rfl | rfl | rfl | rfl | rfl | rfl | rfl | rfl <;> exact stable_v _
  subst hfs
  refine wp_region_tail (S := fun w2 => Blk w2 w.heap.size 70 25 F ∧ SwAt w2 (w.heap.size + 1) s ∧ Below w.heap.size w w2) [isV (.agg (vec 25 F)), isV (.pointer (some ⟨w.heap.size + 1, 0, none⟩)), isV (.int .i64 s.y1), isV (.pointer (some ⟨w.heap.size + 1, 2, none⟩)), isV (.int .i64 s.x1), isV (.int .i64 A), isV (.agg (vec 25 F)), isV (.pointer (some ⟨w.heap.size + 1, 0, none⟩)), isV (.int .i64 s.y1), isV (.pointer (some ⟨w.heap.size + 1, 3, none⟩)), isV (.int .i64 s.x2), isV (.int .i64 B), isV (.int .i64 A)] [(2, .pointer (some ⟨w.heap.size, 0, none⟩)), (3, .pointer (some ⟨w.heap.size + 1, 0, none⟩))] _ _ 13 (by kernel_rfl) rfl rfl (by kernel_rfl) (by kernel_rfl) rfl (by kernel_rfl) ?base ⟨hb1, h2, below_drew hbw⟩ ?ob rfl ?fin
  case base =>
    intro t v ht
    simp only [List.lookup_cons, List.lookup_nil] at ht
    repeat' split at ht
    all_goals first | (cases ht; done) | (obtain rfl := Option.some.inj ht; rename_i hh; obtain rfl := eq_of_beq hh; rfl)
  case ob =>
    exact ⟨obt_one (.agg (vec 25 F)) rfl rfl (srt_b 2 rfl) (fun ρ w2 hS hx => exec_loadVec rfl hx hS.1 Tryz.underlying70 Tryz.sizeImg),
      obt_one (.pointer (some ⟨w.heap.size + 1, 0, none⟩)) rfl rfl (srt_b 3 rfl) (fun ρ w2 hS hx => exec_fieldSw rfl hx (by decide)),
      obt_one (.int .i64 s.y1) rfl rfl (srt_j 1 rfl (by kernel_rfl) rfl) (fun ρ w2 hS hx => exec_loadInt rfl hx (swAt_cells hS.2.1).1),
      obt_one (.pointer (some ⟨w.heap.size + 1, 2, none⟩)) rfl rfl (srt_b 3 rfl) (fun ρ w2 hS hx => exec_fieldSw rfl hx (by decide)),
      obt_one (.int .i64 s.x1) rfl rfl (srt_j 3 rfl (by kernel_rfl) rfl) (fun ρ w2 hS hx => exec_loadInt rfl hx (swAt_cells hS.2.1).2.2.1),
      obt_call hst [.agg (vec 25 F), .int .i64 s.y1, .int .i64 s.x1] rfl Tryz.func83 (by kernel_rfl) (by kernel_rfl) rfl ⟨(srt_j 0 rfl (by kernel_rfl) rfl), (srt_j 2 rfl (by kernel_rfl) rfl), (srt_j 4 rfl (by kernel_rfl) rfl), trivial⟩ (fun w2 hS => (by have := cell_any F s.y1 s.x1 w2; rw [← HA.out] at this; exact this.mono fun e w3 hh => ⟨_, hh.1, ⟨blk_below hS.1 hh.2, swAt_below hS.2.1 hh.2, hS.2.2.trans (hh.2.mono hS.2.2.size)⟩, hh.2, rfl⟩)),
      obt_one (.agg (vec 25 F)) rfl rfl (srt_b 2 rfl) (fun ρ w2 hS hx => exec_loadVec rfl hx hS.1 Tryz.underlying70 Tryz.sizeImg),
      obt_one (.pointer (some ⟨w.heap.size + 1, 0, none⟩)) rfl rfl (srt_b 3 rfl) (fun ρ w2 hS hx => exec_fieldSw rfl hx (by decide)),
      obt_one (.int .i64 s.y1) rfl rfl (srt_j 7 rfl (by kernel_rfl) rfl) (fun ρ w2 hS hx => exec_loadInt rfl hx (swAt_cells hS.2.1).1),
      obt_one (.pointer (some ⟨w.heap.size + 1, 3, none⟩)) rfl rfl (srt_b 3 rfl) (fun ρ w2 hS hx => exec_fieldSw rfl hx (by decide)),
      obt_one (.int .i64 s.x2) rfl rfl (srt_j 9 rfl (by kernel_rfl) rfl) (fun ρ w2 hS hx => exec_loadInt rfl hx (swAt_cells hS.2.1).2.2.2),
      obt_call hst [.agg (vec 25 F), .int .i64 s.y1, .int .i64 s.x2] rfl Tryz.func83 (by kernel_rfl) (by kernel_rfl) rfl ⟨(srt_j 6 rfl (by kernel_rfl) rfl), (srt_j 8 rfl (by kernel_rfl) rfl), (srt_j 10 rfl (by kernel_rfl) rfl), trivial⟩ (fun w2 hS => (by have := cell_any F s.y1 s.x2 w2; rw [← HB.out] at this; exact this.mono fun e w3 hh => ⟨_, hh.1, ⟨blk_below hS.1 hh.2, swAt_below hS.2.1 hh.2, hS.2.2.trans (hh.2.mono hS.2.2.size)⟩, hh.2, rfl⟩)),
      obt_assign (.int .i64 A) rfl rfl rfl (srt_j 5 rfl (by kernel_rfl) rfl),
      trivial⟩
  case fin =>
    intro a' w' h1 h2 h3 hS h4 K hK
    have hv : a'.eval (.tmp 30) = .int .i64 B := h4 11 30 rfl (by decide)
    refine tail_assign rfl hv ?_ K hK
    have ha := frame_ov rfl h1 h2 h3 [(19, .agg (vec 25 F)), (20, .pointer (some ⟨w.heap.size + 1, 0, none⟩)), (21, .int .i64 s.y1), (22, .pointer (some ⟨w.heap.size + 1, 2, none⟩)), (23, .int .i64 s.x1), (24, .int .i64 A), (25, .agg (vec 25 F)), (26, .pointer (some ⟨w.heap.size + 1, 0, none⟩)), (27, .int .i64 s.y1), (28, .pointer (some ⟨w.heap.size + 1, 3, none⟩)), (29, .int .i64 s.x2), (30, .int .i64 B), (5, .int .i64 A), (6, a'.tmps.getD 6 undef)] (by kernel_rfl) ⟨h4 0 19 rfl (by decide), h4 1 20 rfl (by decide), h4 2 21 rfl (by decide), h4 3 22 rfl (by decide), h4 4 23 rfl (by decide), h4 5 24 rfl (by decide), h4 6 25 rfl (by decide), h4 7 26 rfl (by decide), h4 8 27 rfl (by decide), h4 9 28 rfl (by decide), h4 10 29 rfl (by decide), h4 11 30 rfl (by decide), h4 12 5 rfl (by decide), rfl, trivial⟩
    dsimp only [ov, List.lookup, Nat.reduceBEq, Nat.reduceAdd] at ha
    show Exit.then _ _ Exit.normal (Act.put a' (some 6) (.int .i64 B)) _
    rw [ha]
    generalize a'.tmps.getD 6 undef = u6
    clear ha h1 h2 h3 h4 hst hK hv
    obtain ⟨hb3, hs3, hw3⟩ := hS
    obtain ⟨d0, d1, d2, d3⟩ := swAt_cells hs3
    by_cases e1 : A = B
    · subst e1
      go_wp2
      go_ret
      exact ⟨ret_bool (by simp), hw3⟩
    · have hne : (A != B) = true := bne_iff_ne.2 e1
      by_cases e2 : C = B
      · have hne2 : (C == B) = true := beq_iff_eq.2 e2
        have E2 := hide e2; have E1 := hide e1
        clear e2 e1
        go_wp2_with (first | (with_reducible refine wpList_loadVecW hb3 35 rfl 3 true rfl true rfl rfl _ rfl rfl Tryz.underlying70 Tryz.sizeImg ?_) | ((with_reducible refine (cell_any F s.y2 s.x1 _).mono ?_); rw [← HC.out]; rintro e w4 ⟨rfl, hb4⟩; have hb5 := blk_below hb3 hb4; obtain ⟨f0, f1, f2, f3⟩ := swAt_cells (swAt_below hs3 hb4); have hw4 := hw3.trans (hb4.mono hw3.size)) | (with_reducible refine wpList_loadVecW hb5 45 rfl 13 true rfl true rfl rfl _ rfl rfl Tryz.underlying70 Tryz.sizeImg ?_) | ((with_reducible refine (cell_any F s.y2 s.x2 _).mono ?_); rw [← HD.out]; rintro e w5 ⟨rfl, hb6⟩; have hw5 := hw4.trans (hb6.mono hw4.size)))
        go_ret
        exact ⟨ret_bool (by rw [Bool.eq_iff_iff]; simp [E1.out, E2.out]), hw5⟩
      · have hne2 : (C == B) = false := beq_eq_false_iff_ne.2 e2
        go_wp2_with (first | (with_reducible refine wpList_loadVecW hb3 35 rfl 3 true rfl true rfl rfl _ rfl rfl Tryz.underlying70 Tryz.sizeImg ?_) | ((with_reducible refine (cell_any F s.y2 s.x1 _).mono ?_); rw [← HC.out]; rintro e w4 ⟨rfl, hb4⟩; have hw4 := hw3.trans (hb4.mono hw3.size)))
        go_ret
        exact ⟨ret_bool (by simp [e1, e2]), hw4⟩
theorem hasSwitch_any (F : Nat → Int) (s : Sw) (w : World) :
    Calls Tryz.prog 122 #[.agg (vec 25 F), swV s] w fun e w' => e = .returned (.bool (hasF F s)) ∧ Below w.heap.size w w' := by
  by_cases h : s.y1 < s.y2 ∧ s.x1 < s.x2
  · exact hasSwitch_yes F s w h.1 h.2
  · exact hasSwitch_no F s w h
end Go.Proofs.YtpfaaglaeholbaaGreat
/-
  switched of the program: an image after one of its switches.
-/
namespace Go.Proofs.YtpfaaglaeholbaaGreat
open Go.RowKit

def pickN (a b i : Nat) : Nat := if i = 0 then a else b
def flipAt (F : Nat → Int) (p : Nat) : Nat → Int := fun j => if j = p then 1 - F p else F j
/-- The cells after the first n of the four. -/
def stepF (F : Nat → Int) (a b c d : Nat) : Nat → Nat → Int
  | 0 => F
  | n + 1 => flipAt (stepF F a b c d n) (5 * pickN a b (n / 2) + pickN c d (n % 2))
theorem stepF_small {F : Nat → Int} (h : ∀ i, F i = -1 ∨ F i = 0 ∨ F i = 1) (a b c d : Nat) : ∀ n i : Nat, -((n : Int) + 1) ≤ stepF F a b c d n i ∧ stepF F a b c d n i ≤ (n : Int) + 2
  | 0, i => by have := h i; unfold stepF; omega
  | n + 1, i => by
    have h1 := stepF_small h a b c d n i
    have h2 := stepF_small h a b c d n (5 * pickN a b (n / 2) + pickN c d (n % 2))
    unfold stepF flipAt
    split <;> omega
theorem stepF_all {F : Nat → Int} {a b c d : Nat} (hab : a ≠ b) (hcd : c ≠ d) (hc : c < 5) (hd : d < 5) : ∀ i, i < 25 → stepF F a b c d 4 i = if (i / 5 = a ∨ i / 5 = b) ∧ (i % 5 = c ∨ i % 5 = d) then 1 - F i else F i := by
  intro i hi
  have e : stepF F a b c d 4 = flipAt (flipAt (flipAt (flipAt F (5 * a + c)) (5 * a + d)) (5 * b + c)) (5 * b + d) := rfl
  rw [e]
  unfold flipAt
  by_cases h1 : i = 5 * a + c
  · subst h1
    rw [if_neg (by omega), if_neg (by omega), if_neg (by omega), if_pos rfl, if_pos (by omega)]
  · by_cases h2 : i = 5 * a + d
    · subst h2
      rw [if_neg (by omega), if_neg (by omega), if_pos rfl, if_neg (by omega), if_pos (by omega)]
    · by_cases h3 : i = 5 * b + c
      · subst h3
        rw [if_neg (by omega), if_pos rfl, if_neg (by omega), if_neg (by omega), if_pos (by omega)]
      · by_cases h4 : i = 5 * b + d
        · subst h4
          rw [if_pos rfl, if_neg (by omega), if_neg (by omega), if_neg (by omega), if_pos (by omega)]
        · rw [if_neg h4, if_neg h3, if_neg h2, if_neg h1, if_neg (by omega)]
theorem stepF_img {R C : Nat} {f : Nat → Nat → Int} {a b c d : Nat} (h : four R C f a b c d = true) (hC : C ≤ 5) : ∀ i, i < 25 → stepF (imgF R C f) a b c d 4 i = imgF R C (flipN f a b c d) i := by
  obtain ⟨h1, h2, h3, h4, -⟩ := four_iff.1 h
  intro i hi
  rw [stepF_all (by omega) (by omega) (by omega) (by omega) i hi]
  unfold imgF flipN
  by_cases hh : i / 5 < R ∧ i % 5 < C
  · rw [if_pos hh, if_pos hh]
  · rw [if_neg hh, if_neg hh, if_neg]
    omega
theorem vec_two (a b : Nat) : #[Value.int .i64 (a : Int), Value.int .i64 (b : Int)] = vec 2 fun i => ((pickN a b i : Nat) : Int) := rfl
theorem swAt_set {w : World} {g : Nat} {s : Sw} (h : SwAt w g s) (a : Addr) (v : Value) (hne : g ≠ a.block) : SwAt (w.setCell a v) g s := by
  unfold SwAt; rw [heap_setCell_other w a g v hne]; exact h
theorem exec_indexAt {P : Program} {ρ : Operand → Value} {o : Oper} {w : World} {x i : Operand} {T E : TypeId} {g b m s : Nat} (k q : Nat) (ho : o.op = .indexAddr T x i) (hx : ρ x = .pointer (some ⟨g, b, none⟩)) (hi : ρ i = .int .i64 k) (hu : P.underlying T = some (.array m E)) (hs : ∀ w, (sizeOf E).run P w = .ok s w) (hk : k < m) (hq : b + k * s = q) :
    (execOp ρ o).run P w = .ok (.value (.pointer (some ⟨g, q, none⟩))) w := by
  subst hq
  unfold execOp
  simp only [ho, hx, hi, Instr.indexAt, Instr.sureAddr, Sem.run_bind, asIntOf, Sem.run_pure, Result.andThen_ok, run_underlying hu]
  rw [if_pos ⟨by omega, by omega⟩]
  simp only [Sem.run_bind, hs, Result.andThen_ok, Int.toNat_natCast, addr_add]
  simp
theorem exec_storeInt {ρ : Operand → Value} {o : Oper} {w : World} {x y : Operand} {g k : Nat} {u v : Int} (ho : o.op = .store 3 x y) (hx : ρ x = .pointer (some ⟨g, k, none⟩)) (hy : ρ y = .int .i64 v) (h1 : w.cell? ⟨g, k, none⟩ = some (.int .i64 u)) (f1 : w.frozen? ⟨g, k, none⟩ = false) :
    (execOp ρ o).run Tryz.prog w = .ok .skip (w.setCell ⟨g, k, none⟩ (.int .i64 v)) := by
  unfold execOp
  simp only [ho, hx, hy]
  go_simp

set_option maxRecDepth 100000 in
set_option maxHeartbeats 4000000 in
theorem switched_any (F : Nat → Int) (a b c d : Nat) (w : World) (hF : ∀ i, F i = -1 ∨ F i = 0 ∨ F i = 1) (ha : a < 5) (hb : b < 5) (hc : c < 5) (hd : d < 5) :
    Calls Tryz.prog 102 #[.agg (vec 25 F), swV ⟨a, b, c, d⟩] w fun e w' => e = .returned (.agg (vec 25 (stepF F a b c d 4))) ∧ Below w.heap.size w w' := by
  have HSM := hide (stepF_small hF a b c d)
  have HSTEP : Hid (∀ n, stepF F a b c d (n + 1) = flipAt (stepF F a b c d n) (5 * pickN a b (n / 2) + pickN c d (n % 2))) := hide fun _ => rfl
  have HZERO : Hid (stepF F a b c d 0 = F) := hide rfl
  have HPA : Hid (∀ i, pickN a b i < 5) := hide fun i => by unfold pickN; split <;> omega
  have HPC : Hid (∀ i, pickN c d i < 5) := hide fun i => by unfold pickN; split <;> omega
  obtain ⟨G, hG⟩ : ∃ G, G = stepF F a b c d := ⟨_, rfl⟩
  rw [← hG] at HSM HSTEP HZERO ⊢
  clear hG hF
  obtain ⟨s, hs⟩ : ∃ s : Sw, s = ⟨a, b, c, d⟩ := ⟨_, rfl⟩
  have HSW := hide hs
  rw [← hs]
  clear hs
  go_enter Tryz.func102, Tryz.ntmps102
  go_wp2_with (first | (with_reducible refine wpList_boxVec 25 F 2 rfl rfl (.tmp 0) rfl rfl ?_; intro w1 h1 b1 s1) | (with_reducible refine wpList_boxSw s 3 rfl rfl (.tmp 1) rfl rfl ?_; intro w2 h2 b2 s2; have hb1 := blk_below h1 b2; have hbw := b1.trans (b2.mono b1.size); rw [s1] at h2 s2 ⊢; clear h1 b1 s1 b2) | (with_reducible refine wpList_allocVec 25 4 rfl rfl rfl Tryz.zeroImg ?_; intro w3 h3 b3 s3; have hb2 := blk_below hb1 b3; have hbw2 := hbw.trans (b3.mono hbw.size); have hs3 := swAt_below h2 b3; rw [s2] at h3 s3 ⊢; clear hb1 hbw h2 s2 b3; obtain ⟨c0, c1, c2, c3⟩ := swAt_cells hs3; rw [HSW.out] at c0 c1 c2 c3))
  rw [vec_two a b]
  have HP := hide hb2; have HR := hide h3; have HS := hide hs3; have HB := hide hbw2
  rw [← HZERO.out] at HP
  clear hb2 h3 hs3 hbw2 c0 c1 c2 c3 s3
  go_loopw [14] (fun u w' => ∃ i : Nat, i ≤ 2 ∧ u = .int .i64 i ∧ Blk w' w.heap.size 70 25 (G (2 * i)) ∧ Blk w' (w.heap.size + 1 + 1) 70 25 (fun _ => 0) ∧ SwAt w' (w.heap.size + 1) s ∧ Below w.heap.size w w') (fun u _ => 2 - (intOf u).toNat)
  case atStart => exact ⟨0, by omega, rfl, HP.out, HR.out, HS.out, HB.out⟩
  case round =>
    clear HP HR HS HB
    obtain ⟨i, hi, rfl, hp, hr, hsw, hbw⟩ := hrel
    have HP := hide hp; have HR := hide hr; have HS := hide hsw; have HB := hide hbw
    clear hp hr hsw hbw
    by_cases hlt : i < 2
    · have hiI : (i : Int) < 2 := by omega
      obtain ⟨c0, c1, c2, c3⟩ := swAt_cells HS.out
      rw [HSW.out] at c0 c1 c2 c3
      go_wp2_with (with_reducible refine wpList_indexVec i 16 rfl rfl _ _ rfl rfl rfl Tryz.underlying142 Tryz.isAgg3 Tryz.sizeOf3 hlt ?_)
      rw [vec_two c d]
      have hy5 := HPA.out i
      clear c0 c1 c2 c3
      go_loopw [22] (fun u w' => ∃ j : Nat, j ≤ 2 ∧ u = .int .i64 j ∧ Blk w' w.heap.size 70 25 (G (2 * i + j)) ∧ Blk w' (w.heap.size + 1 + 1) 70 25 (fun _ => 0) ∧ SwAt w' (w.heap.size + 1) s ∧ Below w.heap.size w w') (fun u _ => 2 - (intOf u).toNat)
      case atStart => exact ⟨0, by omega, rfl, HP.out, HR.out, HS.out, HB.out⟩
      case round =>
        clear HP HR HS HB
        obtain ⟨j, hj, rfl, hp, hr, hsw, hbw⟩ := hrel
        have HP := hide hp; have HR := hide hr; have HS := hide hsw; have HB := hide hbw
        clear hp hr hsw hbw
        by_cases hlj : j < 2
        · have hjI : (j : Int) < 2 := by omega
          have hx5 := HPC.out j
          obtain ⟨q, hq⟩ : ∃ q, q = 5 * pickN a b i + pickN c d j := ⟨_, rfl⟩
          obtain ⟨z, hz⟩ : ∃ z, z = G (2 * i + j) q := ⟨_, rfl⟩
          have hz4 : -5 ≤ z ∧ z ≤ 6 := by have := HSM.out (2 * i + j) q; omega
          obtain ⟨z1, hz1⟩ : ∃ z1, z1 = 1 - z := ⟨_, rfl⟩
          have HZ1 := hide hz1
          have hwr : IntKind.i64.wrap (1 - z) = 1 - z := IntWalk.i64_in _ (by omega)
          have HST : Hid ((fun t => if t = q then z1 else G (2 * i + j) t) = G (2 * i + (j + 1))) := hide (by
            have := HSTEP.out (2 * i + j)
            rw [show (2 * i + j) / 2 = i by omega, show (2 * i + j) % 2 = j by omega, ← hq] at this
            rw [← Nat.add_assoc, this, hz1, hz]; rfl)
          have hcl : wr.drew.cell? ⟨w.heap.size, q, none⟩ = some (.int .i64 z) := by rw [hz]; exact blk_cell (blk_draws HP.out 1) q (by omega)
          have hfr : wr.drew.frozen? ⟨w.heap.size, q, none⟩ = false := blk_frozen (blk_draws HP.out 1) q
          have HQ := hide hq
          clear hz hz1 hq
          go_wp2_with (with_reducible refine wpList_indexVec j 24 rfl rfl _ _ rfl rfl rfl Tryz.underlying142 Tryz.isAgg3 Tryz.sizeOf3 hlj ?_)
          obtain ⟨fs, hfs⟩ : ∃ fs : List FactP, fs = [isV (.int .i64 ((pickN a b i : Nat) : Int)), isV (.int .i64 ((pickN c d j : Nat) : Int)), isV (.int .i64 ((pickN a b i : Nat) : Int)), isV (.int .i64 ((pickN c d j : Nat) : Int)), isV (.pointer (some ⟨w.heap.size, pickN a b i * 5, none⟩)), isV (.pointer (some ⟨w.heap.size, q, none⟩)), isV (.int .i64 z), isV (.int .i64 z1), isV (.pointer (some ⟨w.heap.size, pickN a b i * 5, none⟩)), isV (.pointer (some ⟨w.heap.size, q, none⟩))] := ⟨_, rfl⟩
          have hst : ∀ f ∈ fs, StableP f := by
            rw [hfs]; intro f hf
            simp only [List.mem_cons, List.not_mem_nil, or_false] at hf
            rcases hf with rfl | rfl | rfl | rfl | rfl | rfl | rfl | rfl | rfl | rfl <;> exact stable_v _
          subst hfs
          refine wp_region_tail (S := fun w2 => w2 = wr.drew) [isV (.int .i64 ((pickN a b i : Nat) : Int)), isV (.int .i64 ((pickN c d j : Nat) : Int)), isV (.int .i64 ((pickN a b i : Nat) : Int)), isV (.int .i64 ((pickN c d j : Nat) : Int)), isV (.pointer (some ⟨w.heap.size, pickN a b i * 5, none⟩)), isV (.pointer (some ⟨w.heap.size, q, none⟩)), isV (.int .i64 z), isV (.int .i64 z1), isV (.pointer (some ⟨w.heap.size, pickN a b i * 5, none⟩)), isV (.pointer (some ⟨w.heap.size, q, none⟩))] [(2, .pointer (some ⟨w.heap.size, 0, none⟩)), (6, .int .i64 ((pickN a b i : Nat) : Int)), (8, .int .i64 ((pickN c d j : Nat) : Int))] _ _ 10 (by kernel_rfl) rfl rfl (by kernel_rfl) (by kernel_rfl) rfl (by kernel_rfl) ?base rfl ?ob rfl ?fin
          case base =>
            intro t v ht
            simp only [List.lookup_cons, List.lookup_nil] at ht
            repeat' split at ht
            all_goals first | (cases ht; done) | (obtain rfl := Option.some.inj ht; rename_i hh; obtain rfl := eq_of_beq hh; rfl)
          case ob =>
            exact ⟨obt_move (.int .i64 ((pickN a b i : Nat) : Int)) rfl rfl rfl (srt_b 6 rfl),
              obt_move (.int .i64 ((pickN c d j : Nat) : Int)) rfl rfl rfl (srt_b 8 rfl),
              obt_move (.int .i64 ((pickN a b i : Nat) : Int)) rfl rfl rfl (srt_b 6 rfl),
              obt_move (.int .i64 ((pickN c d j : Nat) : Int)) rfl rfl rfl (srt_b 8 rfl),
              obt_two (.pointer (some ⟨w.heap.size, pickN a b i * 5, none⟩)) rfl rfl (srt_b 2 rfl) (srt_j 2 rfl (by kernel_rfl) rfl) (fun ρ w2 hS hx hy => exec_indexAt (pickN a b i) (pickN a b i * 5) rfl hx hy Tryz.underlying70 Tryz.sizeOf68 (by omega) (by omega)),
              obt_two (.pointer (some ⟨w.heap.size, q, none⟩)) rfl rfl (srt_j 4 rfl (by kernel_rfl) rfl) (srt_j 3 rfl (by kernel_rfl) rfl) (fun ρ w2 hS hx hy => exec_indexAt (pickN c d j) q rfl hx hy Tryz.underlying68 Tryz.sizeOf3 (by omega) (by have := HQ.out; omega)),
              obt_one (.int .i64 z) rfl rfl (srt_j 5 rfl (by kernel_rfl) rfl) (fun ρ w2 hS hx => by subst hS; exact exec_loadInt rfl hx hcl),
              obt_two (.int .i64 z1) rfl rfl (srt_c (v := .int .i64 1)) (srt_j 6 rfl (by kernel_rfl) rfl) (fun ρ w2 hS hx hy => by rw [show z1 = 1 - z from HZ1.out]; go_simp),
              obt_two (.pointer (some ⟨w.heap.size, pickN a b i * 5, none⟩)) rfl rfl (srt_b 2 rfl) (srt_j 0 rfl (by kernel_rfl) rfl) (fun ρ w2 hS hx hy => exec_indexAt (pickN a b i) (pickN a b i * 5) rfl hx hy Tryz.underlying70 Tryz.sizeOf68 (by omega) (by omega)),
              obt_two (.pointer (some ⟨w.heap.size, q, none⟩)) rfl rfl (srt_j 8 rfl (by kernel_rfl) rfl) (srt_j 1 rfl (by kernel_rfl) rfl) (fun ρ w2 hS hx hy => exec_indexAt (pickN c d j) q rfl hx hy Tryz.underlying68 Tryz.sizeOf3 (by omega) (by have := HQ.out; omega)),
              trivial⟩
          case fin =>
            intro a' w' h1 h2 h3 hS h4 K hK
            have ha := frame_ov rfl h1 h2 h3 [(25, .int .i64 ((pickN a b i : Nat) : Int)), (26, .int .i64 ((pickN c d j : Nat) : Int)), (27, .int .i64 ((pickN a b i : Nat) : Int)), (28, .int .i64 ((pickN c d j : Nat) : Int)), (29, .pointer (some ⟨w.heap.size, pickN a b i * 5, none⟩)), (30, .pointer (some ⟨w.heap.size, q, none⟩)), (31, .int .i64 z), (32, .int .i64 z1), (33, .pointer (some ⟨w.heap.size, pickN a b i * 5, none⟩)), (34, .pointer (some ⟨w.heap.size, q, none⟩))] (by kernel_rfl) ⟨h4 0 25 rfl (by decide), h4 1 26 rfl (by decide), h4 2 27 rfl (by decide), h4 3 28 rfl (by decide), h4 4 29 rfl (by decide), h4 5 30 rfl (by decide), h4 6 31 rfl (by decide), h4 7 32 rfl (by decide), h4 8 33 rfl (by decide), h4 9 34 rfl (by decide), trivial⟩
            dsimp only [ov, List.lookup, Nat.reduceBEq, Nat.reduceAdd] at ha
            have v34 : a'.tmps.getD 34 undef = .pointer (some ⟨w.heap.size, q, none⟩) := h4 9 34 rfl (by decide)
            have v32 : a'.tmps.getD 32 undef = .int .i64 z1 := h4 7 32 rfl (by decide)
            subst hS
            refine run_skip (exec_storeInt (u := z) rfl v34 v32 hcl hfr) (hK undef _ ?_)
            show Exit.inBlock _ _ Exit.normal a' _
            have E1 : Hid (Blk (wr.drew.setCell ⟨w.heap.size, q, none⟩ (.int .i64 z1)) w.heap.size 70 25 (G (2 * i + (j + 1)))) := hide (by have := blk_set (blk_draws HP.out 1) q z1; rw [HST.out] at this; exact this)
            have E2 : Hid (Blk (wr.drew.setCell ⟨w.heap.size, q, none⟩ (.int .i64 z1)) (w.heap.size + 1 + 1) 70 25 (fun _ => 0)) := hide (blk_other (blk_draws HR.out 1) _ _ (by simp; omega))
            have E3 : Hid (SwAt (wr.drew.setCell ⟨w.heap.size, q, none⟩ (.int .i64 z1)) (w.heap.size + 1) s) := hide (swAt_set (swAt_below HS.out (below_drew (Below.refl _ _))) _ _ (by simp))
            have E4 : Hid (Below w.heap.size w (wr.drew.setCell ⟨w.heap.size, q, none⟩ (.int .i64 z1))) := hide ((below_drew HB.out).setCell (Nat.le_refl _) _)
            clear v34 v32
            generalize wr.drew.setCell ⟨w.heap.size, q, none⟩ (.int .i64 z1) = w9 at E1 E2 E3 E4 ⊢
            rw [ha]
            clear ha h1 h2 h3 h4 hst hK
            go_wp2
            go_roundw
            case rel => exact ⟨j + 1, by omega, by go_num, E1.out, E2.out, E3.out, E4.out⟩
            case measure => simp [intOf]; omega
        · obtain rfl : j = 2 := by omega
          go_wp2
          go_roundw
          case rel => exact ⟨i + 1, by omega, by go_num, HP.out, HR.out, HS.out, HB.out⟩
          case measure => simp [intOf]; omega
    · obtain rfl : i = 2 := by omega
      go_wp2_with (first | (with_reducible refine wpList_loadVec HP.out 37 rfl rfl _ rfl rfl Tryz.underlying70 Tryz.sizeImg ?_) | (with_reducible refine wpList_storeVec HR.out rfl (.tmp 4) (.tmp 37) rfl rfl rfl Tryz.sizeImg ?_; intro w4 h4 g4 s4))
      refine bodyPost_ret (results_vec rfl _ _ (w.heap.size + 1 + 1) 25 _ 70 _ _ rfl h4 Tryz.underlying70 Tryz.sizeImg) rfl ⟨rfl, ?_⟩
      exact HB.out.trans (grown_below g4 (fun k hk => by cases hk; omega) HB.out.size)
theorem switched_img (R C : Nat) (f : Nat → Nat → Int) (s : Sw) (w : World) (hI : Img R C f) (hs : swF R C f s = true) :
    Calls Tryz.prog 102 #[.agg (vec 25 (imgF R C f)), swV s] w fun e w' => e = .returned (.agg (vec 25 (imgF R C (flipF f s)))) ∧ Below w.heap.size w w' := by
  obtain ⟨a, b, c, d, rfl, h⟩ := swF_iff.1 hs
  have hR := hI.r2; have hC := hI.c2
  obtain ⟨h1, h2, h3, h4, -⟩ := four_iff.1 h
  refine (switched_any (imgF R C f) a b c d w (imgF_range hI) (by omega) (by omega) (by omega) (by omega)).mono ?_
  rintro e w' ⟨rfl, hb⟩
  refine ⟨?_, hb⟩
  rw [vec_congr (stepF_img h hC)]; rfl
end Go.Proofs.YtpfaaglaeholbaaGreat
