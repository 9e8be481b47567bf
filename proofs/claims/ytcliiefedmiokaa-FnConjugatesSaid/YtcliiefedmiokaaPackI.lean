/-
  Texts of this claim, one behind the other: ShSl, Lists, Arr2, Arr3, Arr4, Impl, SpecI, Grown, SwV, SwL.
-/
import Derived.Shelf.Slices.Clone
import Derived.Shelf.Slices.Cells
import Derived.Shelf.Slices.Empties2
import Derived.Shelf.Slices.Equal
import Derived.Ground.Names2Prog
import Derived.Test.YtcliiefedmiokaaProg
import Derived.Test.YtcliiefedmiokaaPackC
import Derived.Test.YtcliiefedmiokaaPackA
import Derived.Shelf.SlSortCmp.QuietGrown
import Derived.Test.YtcliiefedmiokaaPackB
import Derived.Test.YtcliiefedmiokaaPackD
/-
  Contracts of the library, at this translation: laid by the shelf, in plain declarations.
-/
namespace Go.Proofs
open Go.Shelf Go.RowKit Go.Lib
def Try.lays111_ren : Go.Shelf.Ren := ⟨fun | 111 => 101 | n => n, fun | 28 => 24 | 3 => 3 | 4 => 4 | 0 => 0 | n => n, fun | n => n⟩
theorem Try.lays111 : Go.Proofs.Lays.n111 Try.prog Try.lays111_ren := {
  mixed := by kernel_rfl
  f111 := Try.func101.trans (congrArg some (by kernel_rfl))
  t0 := Try.underlying0
  a0 := Try.isAgg0
  z0 := Try.sizeOf0
  v0 := Try.zeroValue0
  t3 := Try.underlying3
  a3 := Try.isAgg3
  z3 := Try.sizeOf3
  v3 := Try.zeroValue3
  t4 := Try.underlying4
  a4 := Try.isAgg4
  z4 := Try.sizeOf4
  v4 := Try.zeroValue4
  t28 := Try.underlying24
  a28 := Try.isAgg24
  z28 := Try.sizeOf24
  v28 := Try.zeroValue24 }
theorem Try.slices_Equal_int (b1 o1 n c b2 o2 m d : Nat) (xs ys : List Int) (w : World) (hx : n ≤ xs.length) (hy : m ≤ ys.length) (hbig : n ≤ 9223372036854775807) (hbig2 : m ≤ 9223372036854775807) (hc1 : ∀ j, j < xs.length → w.cell? ⟨b1, o1 + j, none⟩ = some (.int .i64 (xs.getD j 0))) (hc2 : ∀ j, j < ys.length → w.cell? ⟨b2, o2 + j, none⟩ = some (.int .i64 (ys.getD j 0))) :
    Calls Try.prog 101 #[.slice (some ⟨b1, o1, none⟩) n c, .slice (some ⟨b2, o2, none⟩) m d] w fun e w' => e = .returned (.bool (xs.take n == ys.take m)) ∧ ∃ q, w' = w.drewN q := Any.slices_Equal_int Try.lays111 b1 o1 n c b2 o2 m d xs ys w hx hy hbig hbig2 hc1 hc2
theorem Try.slices_Equal_int_empty (a1 a2 : Option Addr) (c m d : Nat) (w : World) (hbig2 : m ≤ 9223372036854775807) :
    Calls Try.prog 101 #[.slice a1 0 c, .slice a2 m d] w fun e w' => e = .returned (.bool (decide (m = 0))) ∧ w' = w := Any.slices_Equal_int_empty Try.lays111 a1 a2 c m d w hbig2
def Try.laysNm215_ren : Go.Shelf.Ren := ⟨fun | 15 => 120 | n => n, fun | 22 => 24 | 3 => 3 | 4 => 4 | n => n, fun | n => n⟩
theorem Try.laysNm215 : Go.Proofs.Lays2.n15 Try.prog Try.laysNm215_ren := {
  mixed := by kernel_rfl
  f15 := Try.func120.trans (congrArg some (by kernel_rfl))
  t3 := Try.underlying3
  a3 := Try.isAgg3
  z3 := Try.sizeOf3
  v3 := Try.zeroValue3
  t4 := Try.underlying4
  a4 := Try.isAgg4
  z4 := Try.sizeOf4
  v4 := Try.zeroValue4
  t22 := Try.underlying24
  a22 := Try.isAgg24
  z22 := Try.sizeOf24
  v22 := Try.zeroValue24
  i3 := by kernel_rfl }
theorem Try.slices_Clone_int (b off n c : Nat) (zs : List Int) (w : World) (hz : n ≤ zs.length) (hbig : n * 8 ≤ 140737488355328) (hc : ∀ j, j < zs.length → w.cell? ⟨b, off + j, none⟩ = some (.int .i64 (zs.getD j 0))) :
    Calls Try.prog 120 #[.slice (some ⟨b, off, none⟩) n c] w fun e w' => ∃ v', e = .returned v' ∧ w'.ownsRow w.heap.size 3 1 v' n ((zs.take n).map (Value.int .i64)) ∧ v' ≠ .slice none 0 0 ∧ Below w.heap.size w w' := Any.slices_Clone_int Try.laysNm215 b off n c zs w hz hbig hc
theorem Try.slices_Clone_int_nil (n c : Nat) (w : World) :
    Calls Try.prog 120 #[.slice none n c] w fun e w' => e = .returned (.slice none 0 0) ∧ w' = w := Any.slices_Clone_int_nil Try.laysNm215 n c w
theorem Try.slices_Clone_int_zero (a : Addr) (c : Nat) (w : World) :
    Calls Try.prog 120 #[.slice (some a) 0 c] w fun e w' => ∃ v', e = .returned v' ∧ w'.ownsRow w.heap.size 3 1 v' 0 [] ∧ v' ≠ .slice none 0 0 ∧ Below w.heap.size w w' := Any.slices_Clone_int_zero Try.laysNm215 a c w
theorem Try.slices_Equal_int_lens (a1 a2 : Option Addr) (n c m d : Nat) (w : World) (hnm : n ≠ m) :
    Calls Try.prog 101 #[.slice a1 n c, .slice a2 m d] w fun e w' => e = .returned (.bool false) ∧ w' = w := Any.slices_Equal_int_lens Try.lays111 a1 a2 n c m d w hnm
end Go.Proofs
/-
  The program's images: size, lists.
-/
namespace Go.Proofs.Ytcliiefedmiokaa
open Go.RowKit

set_option maxHeartbeats 400000 in
theorem size_any (G : Nat → Int) (n : Nat) (w : World) (hn : n ≤ 5) (h1 : ∀ j, j < n → G j ≠ -1) (h2 : n = 5 ∨ G n = -1) :
    Calls Try.prog 119 #[.agg (vec 5 G)] w fun e w' => e = .returned (.int .i64 n) ∧ Below w.heap.size w w' := by
  have N1 := hide h1; have N2 := hide h2
  clear h1 h2
  go_enter Try.func119, Try.ntmps119
  go_wp2_with (with_reducible refine wpList_boxVec 5 G 1 rfl rfl (.tmp 0) rfl rfl ?_; intro w1 h1 b1 s1)
  have H1 := hide h1; have B1 := hide b1
  clear h1 b1
  go_loop [3] (fun i => ∃ k : Nat, k ≤ n ∧ i = .int .i64 k) (fun i => n - (intOf i).toNat)
  case atStart => exact ⟨0, by omega, rfl⟩
  case round =>
    obtain ⟨k, hk, rfl⟩ := hrel
    by_cases hlt : k < n
    · have hx := blk_cell H1.out k (by omega)
      have hne := N1.out k hlt
      obtain ⟨y, hy⟩ : ∃ y, y = G k := ⟨_, rfl⟩
      rw [← hy] at hx hne
      have hb : (y != -1) = true := by simpa using hne
      have h5 : (k : Int) < 5 := by omega
      clear hy hne
      go_wp2
      go_round
      case rel => exact ⟨k + 1, by omega, by go_num⟩
      case measure => simp [intOf]; omega
    · obtain rfl : k = n := by omega
      by_cases h5 : k < 5
      · have hx := blk_cell H1.out k h5
        rw [N2.out.resolve_left (by omega)] at hx
        have h5' : (k : Int) < 5 := by omega
        go_wp2
        go_ret
        exact ⟨rfl, B1.out⟩
      · have h5' : ¬ (k : Int) < 5 := by omega
        go_wp2
        go_ret
        exact ⟨rfl, B1.out⟩

/-- A row of the padded image. -/
theorem imgF_row (R C : Nat) (f : Nat → Nat → Int) (y : Nat) : ∀ j, j < 5 → imgF R C f (y * 5 + j) = if y < R ∧ j < C then f y j else -1 := fun j hj => by
  rw [show y * 5 + j = 5 * y + j by omega, imgF_at R C f y j hj]

theorem ownMat_block {w w' : World} {lo hi g : Nat} {v : Value} {m : List (List Int)} (h : OwnMat w lo hi v m) (hg : w.grownBy w' (some g)) (hh : hi ≤ g) : OwnMat w' lo hi v m :=
  ownMat_within h (within_grown (lo := g) (hi := g + 1) hg fun k hk => by cases hk; exact ⟨Nat.le_refl _, Nat.lt_succ_self _⟩) (.inl hh)

set_option maxRecDepth 100000 in
set_option maxHeartbeats 1000000 in
theorem lists_any (R C : Nat) (f : Nat → Nat → Int) (w : World) (hI : Img R C f) :
    Calls Try.prog 80 #[.agg (vec 25 (imgF R C f))] w fun e w' => ∃ v, e = .returned v ∧ OwnMat w' w.heap.size w'.heap.size v (mkM R C f) ∧ Below w.heap.size w w' := by
  have hR := hI.r2; have hC := hI.c2; have hC1 := hI.c1
  have HI := hide hI
  clear hI
  go_enter Try.func80, Try.ntmps80
  go_wp2_with (first | (with_reducible refine wpList_boxVec 25 (imgF R C f) 1 rfl rfl (.tmp 0) rfl rfl ?_; intro w1 h1 b1 s1) | (with_reducible refine wpList_loadVec h1 7 rfl rfl _ rfl rfl Try.underlying78 Try.sizeImg ?_))
  have B1 := hide b1
  clear h1 b1 s1
  go_loopw [3, 8] (fun o i w' => ∃ (y : Nat) (v : Value), y ≤ 5 ∧ i = .int .i64 y ∧ v = o ∧ OwnMat w' w.heap.size w'.heap.size v (mkM (min y R) C f) ∧ Below w.heap.size w w') (fun _ i _ => 5 - (intOf i).toNat)
  case atStart => exact ⟨0, _, by omega, rfl, rfl, by rw [Nat.zero_min]; exact ownMat_nil _ _ _, B1.out⟩
  case round =>
    clear B1
    obtain ⟨y, v, hy, rfl, rfl, hown, hb⟩ := hrel
    have HO := hide hown; have HB := hide hb
    clear hown hb
    by_cases hlt : y < 5
    · have hyI : (y : Int) < 5 := by omega
      have HG := hide (imgF_row R C f y)
      have hsz := HB.out.size
      go_wp2_with (first | (with_reducible refine wpList_indexRow y 10 rfl rfl _ _ rfl rfl rfl Try.underlying78 Try.isAgg76 Try.sizeOf76 hlt (by omega) ?_) | (with_reducible refine wpList_allocVec 5 5 rfl rfl rfl Try.zeroRow ?_; intro w2 h2 b2 s2) | (with_reducible refine wpList_storeVec h2 rfl (.tmp 5) (.tmp 10) rfl rfl rfl Try.sizeRow ?_; intro w3 h3 g3 s3) | (with_reducible refine wpList_loadVec h3 11 rfl rfl _ rfl rfl Try.underlying76 Try.sizeRow ?_))
      have B3 := hide (HB.out.trans ((b2.mono hsz).trans (grown_below g3 (fun k hk => by cases hk; exact hsz) (by omega))))
      have O3 := hide (ownMat_block (ownMat_below HO.out b2) g3 (Nat.le_refl _))
      have H3 := hide h3
      have hs3 : w3.heap.size = wr.heap.size + 1 := by omega
      clear h2 b2 s2 h3 g3 s3
      by_cases hr : y < R
      · go_wp2_with fail
        refine (size_any _ C _ hC (fun j hj => ?_) ?_).mono ?_
        · rw [HG.out j (by omega), if_pos ⟨hr, hj⟩]
          rcases HI.out.cell y j hr hj with e | e <;> rw [e] <;> decide
        · by_cases e : C = 5
          · exact .inl e
          · right; rw [HG.out C (by omega), if_neg (by omega)]
        rintro e w4 ⟨rfl, b4⟩
        have H4 := hide (blk_below H3.out b4)
        have O4 := hide (ownMat_below O3.out b4)
        have B4 := hide (B3.out.trans (b4.mono (by omega)))
        have hs4 := b4.size
        clear b4
        have hpos : (0 : Int) < (C : Int) := by omega
        go_wp2_with (with_reducible refine wpList_sliceVec C 17 rfl rfl (.tmp 5) (.tmp 16) rfl rfl rfl Try.underlying76 Try.sizeOf3 hC ?_)
        refine (Try.slices_Clone_int wr.heap.size 0 C 5 (rowF C (f y)) _ (by rw [rowF_len]; exact Nat.le_refl _) (by omega) (fun j hj => ?_)).mono ?_
        · rw [rowF_len] at hj
          rw [Nat.zero_add, blk_cell H4.out j (by omega), HG.out j (by omega), if_pos ⟨hr, hj⟩, List.getD_eq_getElem?_getD, List.getElem?_eq_getElem (by rw [rowF_len]; exact hj), Option.getD_some, rowF_at]
        rintro e w5 ⟨u, rfl, hu, -, b5⟩
        have hu : w5.ownsRow w4.heap.size 3 1 u (rowF C (f y)).length (ints (rowF C (f y))) := by
          rw [rowF_len]
          have := hu
          rw [List.take_of_length_le (by rw [rowF_len]; exact Nat.le_refl _)] at this
          exact this
        obtain ⟨ua, uc, rfl⟩ := own_slice hu
        rw [rowF_len] at *
        have HU := hide hu
        have O5 := hide (ownMat_below O4.out b5)
        have B5 := hide (B4.out.trans (b5.mono (by omega)))
        have hs5 := b5.size
        clear hu b5
        have hmin : min y R = y := by omega
        rw [hmin] at O5
        clear hmin
        obtain ⟨vs, hv, hvh, hvr, hva⟩ := O5.out
        have hvl := mkM_len y C f
        rw [hvl] at hv
        have HV := hide hv; have HVH := hide hvh; have HVR := hide hvr; have HVA := hide hva
        clear hv hvh hvr hva hvl
        go_wp2_with (at_builtin; refine wpList_push HV.out (.slice ua C uc) (.slice none 0 0) rfl _ _ rfl Try.underlying22 Try.infoInts rfl (by decide) rfl rfl rfl (by omega) (by omega) ?_; intro v' w6 hown1 hb1 hg1)
        go_roundw
        case rel =>
          have hs6 := hb1.size
          have hp := ownMat_push (r := rowF C (f y)) (hi' := w6.heap.size) HVR.out HVA.out (by rw [mkM_len]; exact HV.out) (by rw [rowF_len]; exact own_base HU.out (by omega)) hsz (by omega) (by omega) hg1 (by rw [mkM_len]; exact hown1) (fun k e => (hown1.lt k e).2)
          rw [← mkM_succ, show y + 1 = min (y + 1) R by omega] at hp
          exact ⟨y + 1, _, by omega, by go_num, rfl, hp, B5.out.trans (hb1.mono (by omega))⟩
        case measure => simp [intOf]; omega
      · go_wp2_with fail
        refine (size_any _ 0 _ (by omega) (fun j hj => absurd hj (Nat.not_lt_zero _)) (.inr ?_)).mono ?_
        · rw [HG.out 0 (by omega), if_neg (by omega)]
        rintro e w4 ⟨rfl, b4⟩
        have O4 := hide (ownMat_below O3.out b4)
        have B4 := hide (B3.out.trans (b4.mono (by omega)))
        have hs4 := b4.size
        clear b4
        go_wp2
        go_roundw
        case rel =>
          have hp := ownMat_mono (hi' := w4.heap.size) O4.out (Nat.le_refl _) (by omega)
          rw [show min y R = min (y + 1) R by omega] at hp
          exact ⟨y + 1, _, by omega, by go_num, rfl, hp, B4.out⟩
        case measure => simp [intOf]; omega
    · have hmin : min y R = R := by omega
      rw [hmin] at HO
      clear hmin
      go_wp2
      go_ret
      exact ⟨_, rfl, HO.out, HB.out⟩
end Go.Proofs.Ytcliiefedmiokaa
/-
  The program's images: cell, count, transposed, inverted, distance.
-/
namespace Go.Proofs.Ytcliiefedmiokaa
open Go.RowKit

theorem row_below {w wr w2 w3 : World} (hb : Below w.heap.size w wr) (b2 : Below wr.heap.size wr w2) (g3 : w2.grownBy w3 (some wr.heap.size)) : Below w.heap.size w w3 :=
  hb.trans ((b2.mono hb.size).trans (grown_below g3 (fun k hk => by cases hk; exact hb.size) (Nat.le_trans hb.size b2.size)))
theorem row_blk {wr w2 w3 : World} {g n : Nat} {T : TypeId} {F : Nat → Int} (h : Blk wr g T n F) (b2 : Below wr.heap.size wr w2) (g3 : w2.grownBy w3 (some wr.heap.size)) : Blk w3 g T n F :=
  blk_grown (blk_below h b2) g3 (by have := blk_lt h; simp; omega)

set_option maxHeartbeats 400000 in
theorem cell_in (F : Nat → Int) (y x : Nat) (w : World) (hy : y < 5) (hx : x < 5) :
    Calls Try.prog 118 #[.agg (vec 25 F), .int .i64 y, .int .i64 x] w fun e w' => e = .returned (.int .i64 (F (5 * y + x))) ∧ Below w.heap.size w w' := by
  have hyI : (y : Int) < 5 := by omega
  have hxI : (x : Int) < 5 := by omega
  have HA : Hid (0 + y * 5 + x * 1 = 5 * y + x) := hide (by omega)
  have hlt : 5 * y + x < 25 := by omega
  go_enter Try.func118, Try.ntmps118
  go_wp2_with (first | (with_reducible refine wpList_boxVec 25 F 3 rfl rfl (.tmp 0) rfl rfl ?_; intro w1 h1 b1 s1; have hcl := blk_cell h1 (5 * y + x) hlt) | (with_reducible refine wpList_indexAt y 23 rfl rfl _ _ rfl rfl rfl Try.underlying78 Try.sizeOf76 hy ?_) | (with_reducible refine wpList_indexAt x 24 rfl rfl _ _ rfl rfl rfl Try.underlying76 Try.sizeOf3 hx ?_; rw [HA.out]))
  go_ret
  exact ⟨rfl, b1⟩
set_option maxHeartbeats 400000 in
theorem cell_out (F : Nat → Int) (y x : Int) (w : World) (h : y < 0 ∨ 5 ≤ y ∨ x < 0 ∨ 5 ≤ x) :
    Calls Try.prog 118 #[.agg (vec 25 F), .int .i64 y, .int .i64 x] w fun e w' => e = .returned (.int .i64 (-1)) ∧ Below w.heap.size w w' := by
  by_cases h1 : y < 0
  · clear h
    go_enter Try.func118, Try.ntmps118
    go_wp2_with (with_reducible refine wpList_boxVec 25 F 3 rfl rfl (.tmp 0) rfl rfl ?_; intro w1 h1 b1 s1)
    go_ret
    exact ⟨rfl, b1⟩
  · by_cases h2 : 5 ≤ y
    · clear h
      go_enter Try.func118, Try.ntmps118
      go_wp2_with (with_reducible refine wpList_boxVec 25 F 3 rfl rfl (.tmp 0) rfl rfl ?_; intro w1 h1 b1 s1)
      go_ret
      exact ⟨rfl, b1⟩
    · by_cases h3 : x < 0
      · clear h
        go_enter Try.func118, Try.ntmps118
        go_wp2_with (with_reducible refine wpList_boxVec 25 F 3 rfl rfl (.tmp 0) rfl rfl ?_; intro w1 h1 b1 s1)
        go_ret
        exact ⟨rfl, b1⟩
      · have h4 : 5 ≤ x := by omega
        clear h
        go_enter Try.func118, Try.ntmps118
        go_wp2_with (with_reducible refine wpList_boxVec 25 F 3 rfl rfl (.tmp 0) rfl rfl ?_; intro w1 h1 b1 s1)
        go_ret
        exact ⟨rfl, b1⟩

/-- The first y columns of the exchanged image, and x cells of the next one. -/
def upT (F : Nat → Int) (y x : Nat) (i : Nat) : Int := if i % 5 < y ∨ (i % 5 = y ∧ i / 5 < x) then F (5 * (i % 5) + i / 5) else 0
theorem upT_zero (F : Nat → Int) : upT F 0 0 = fun _ => 0 := by funext i; rw [upT, if_neg (by omega)]
theorem upT_set (F : Nat → Int) (y x : Nat) (hy : y < 5) : (fun j => if j = 5 * x + y then F (5 * y + x) else upT F y x j) = upT F y (x + 1) := by
  funext j
  simp only [upT]
  by_cases e : j = 5 * x + y
  · subst e
    rw [if_pos rfl, if_pos (by omega), show (5 * x + y) % 5 = y by omega, show (5 * x + y) / 5 = x by omega]
  · rw [if_neg e]
    by_cases hl : j % 5 < y ∨ (j % 5 = y ∧ j / 5 < x)
    · rw [if_pos hl, if_pos (by omega)]
    · rw [if_neg hl, if_neg (by omega)]
theorem upT_next (F : Nat → Int) (y : Nat) : ∀ i, i < 25 → upT F y 5 i = upT F (y + 1) 0 i := fun i hi => by
  simp only [upT]
  by_cases hl : i % 5 < y + 1
  · rw [if_pos (by omega), if_pos (by omega)]
  · rw [if_neg (by omega), if_neg (by omega)]
theorem upT_all (F : Nat → Int) : ∀ i, i < 25 → upT F 5 0 i = F (5 * (i % 5) + i / 5) := fun i hi => by rw [upT, if_pos (by omega)]

set_option maxHeartbeats 1000000 in
theorem transposed_any (F : Nat → Int) (w : World) :
    Calls Try.prog 105 #[.agg (vec 25 F)] w fun e w' => e = .returned (.agg (vec 25 fun i => F (5 * (i % 5) + i / 5))) ∧ Below w.heap.size w w' := by
  go_enter Try.func105, Try.ntmps105
  go_wp2_with (first | (with_reducible refine wpList_boxVec 25 F 1 rfl rfl (.tmp 0) rfl rfl ?_; intro w1 h1 b1 s1) | (with_reducible refine wpList_allocVec 25 2 rfl rfl rfl Try.zeroImg ?_; intro wa ha ba sa) | (with_reducible refine wpList_allocVec 25 3 rfl rfl rfl Try.zeroImg ?_; intro wb hb bb sb) | (with_reducible refine wpList_loadVec (blk_below (blk_below h1 ba) bb) 8 rfl rfl _ rfl rfl Try.underlying78 Try.sizeImg ?_))
  have B1 := hide (b1.trans ((ba.mono (by omega)).trans (bb.mono (by omega))))
  have HR := hide (blk_below ha bb)
  have HP := hide hb
  have hsz : w.heap.size + 2 < wb.heap.size := by omega
  rw [s1] at HR sa
  rw [sa] at HP
  rw [show w.heap.size + 1 + 1 = w.heap.size + 2 by omega] at HP
  clear h1 b1 ha ba hb bb sb s1 sa
  go_loopw [9] (fun i w' => ∃ y : Nat, y ≤ 5 ∧ i = .int .i64 y ∧ Blk w' (w.heap.size + 2) 78 25 (upT F y 0) ∧ Blk w' (w.heap.size + 1) 78 25 (fun _ => 0) ∧ Below w.heap.size w w') (fun i _ => 5 - (intOf i).toNat)
  case atStart => exact ⟨0, by omega, rfl, by rw [upT_zero]; exact HP.out, HR.out, B1.out⟩
  case round =>
    clear B1 HP HR hsz
    obtain ⟨y, hy, rfl, hp, hr, hb⟩ := hrel
    have HP := hide hp; have HR := hide hr; have HB := hide hb
    clear hp hr hb
    by_cases hlt : y < 5
    · have hyI : (y : Int) < 5 := by omega
      go_wp2_with (first | (with_reducible refine wpList_indexRow y 12 rfl rfl _ _ rfl rfl rfl Try.underlying78 Try.isAgg76 Try.sizeOf76 hlt (by omega) ?_) | (with_reducible refine wpList_allocVec 5 5 rfl rfl rfl Try.zeroRow ?_; intro w2 h2 b2 s2) | (with_reducible refine wpList_storeVec h2 rfl (.tmp 5) (.tmp 12) rfl rfl rfl Try.sizeRow ?_; intro w3 h3 g3 s3) | (with_reducible refine wpList_loadVec h3 13 rfl rfl _ rfl rfl Try.underlying76 Try.sizeRow ?_))
      have B3 := hide (row_below HB.out b2 g3)
      have P3 := hide (row_blk HP.out b2 g3)
      have R3 := hide (row_blk HR.out b2 g3)
      clear h2 b2 s2 h3 g3 s3
      go_loopw [14] (fun i w' => ∃ x : Nat, x ≤ 5 ∧ i = .int .i64 x ∧ Blk w' (w.heap.size + 2) 78 25 (upT F y x) ∧ Blk w' (w.heap.size + 1) 78 25 (fun _ => 0) ∧ Below w.heap.size w w') (fun i _ => 5 - (intOf i).toNat)
      case atStart => exact ⟨0, by omega, rfl, P3.out, R3.out, B3.out⟩
      case round =>
        clear B3 P3 R3 HB HP HR
        obtain ⟨x, hx, rfl, hp, hr, hb⟩ := hrel
        have HP := hide hp; have HR := hide hr; have HB := hide hb
        clear hp hr hb
        by_cases hlx : x < 5
        · have hxI : (x : Int) < 5 := by omega
          have HS := hide (upT_set F y x hlt)
          have hcl := blk_cell HP.out (5 * x + y) (by omega)
          have hfr := blk_frozen HP.out (5 * x + y)
          have HA : Hid (0 + x * 5 + y * 1 = 5 * x + y) := hide (by omega)
          have HE : Hid (y * 5 + x = 5 * y + x) := hide (by omega)
          go_wp2_with (first | (with_reducible refine wpList_indexVec x 17 rfl rfl _ _ rfl rfl rfl Try.underlying76 Try.isAgg3 Try.sizeOf3 hlx ?_; rw [HE.out]) | (with_reducible refine wpList_indexAt x 21 rfl rfl _ _ rfl rfl rfl Try.underlying78 Try.sizeOf76 hlx ?_) | (with_reducible refine wpList_indexAt y 22 rfl rfl _ _ rfl rfl rfl Try.underlying76 Try.sizeOf3 hlt ?_; rw [HA.out]))
          go_roundw
          case rel => exact ⟨x + 1, by omega, by go_num, by have := blk_set HP.out (5 * x + y) (F (5 * y + x)); rw [HS.out] at this; exact this, blk_other HR.out _ _ (by simp), HB.out.setCell (by show w.heap.size ≤ w.heap.size + 2; omega) _⟩
          case measure => simp [intOf]; omega
        · obtain rfl : x = 5 := by omega
          go_wp2
          go_roundw
          case rel => exact ⟨y + 1, by omega, by go_num, blk_congr HP.out (upT_next F y), HR.out, HB.out⟩
          case measure => simp [intOf]; omega
    · obtain rfl : y = 5 := by omega
      have HP := hide (blk_congr HP.out (upT_all F))
      go_wp2_with (first | (with_reducible refine wpList_loadVec HP.out 25 rfl rfl _ rfl rfl Try.underlying78 Try.sizeImg ?_) | (with_reducible refine wpList_storeVec HR.out rfl (.tmp 2) (.tmp 25) rfl rfl rfl Try.sizeImg ?_; intro w4 h4 g4 s4))
      refine bodyPost_ret (results_vec rfl _ _ (w.heap.size + 1) 25 _ 78 _ _ rfl h4 Try.underlying78 Try.sizeImg) rfl ⟨rfl, ?_⟩
      exact HB.out.trans (grown_below g4 (fun k hk => by cases hk; exact Nat.le_succ _) HB.out.size)
end Go.Proofs.Ytcliiefedmiokaa
/-
  The program's images: inverted, distance, mirrored.
-/
namespace Go.Proofs.Ytcliiefedmiokaa
open Go.RowKit

def invN (v : Int) : Int := if v = -1 then -1 else 1 - v
def upI (F : Nat → Int) (k : Nat) (i : Nat) : Int := if i < k then invN (F i) else F i
theorem upI_zero (F : Nat → Int) : upI F 0 = F := by funext i; simp [upI]
theorem upI_set (F : Nat → Int) (k : Nat) (v : Int) (h : invN (F k) = v) : (fun j => if j = k then v else upI F k j) = upI F (k + 1) := by
  funext j
  simp only [upI]
  by_cases e : j = k
  · subst e; simp [h]
  · rw [if_neg e]
    by_cases hl : j < k
    · rw [if_pos hl, if_pos (by omega)]
    · rw [if_neg hl, if_neg (by omega)]
theorem upI_skip (F : Nat → Int) (k : Nat) (h : F k = -1) : upI F k = upI F (k + 1) := by
  funext j
  simp only [upI]
  by_cases hl : j < k
  · rw [if_pos hl, if_pos (by omega)]
  · by_cases e : j = k
    · subst e; simp [h, invN]
    · rw [if_neg hl, if_neg (by omega)]
theorem upI_all (F : Nat → Int) : ∀ i, i < 25 → upI F (5 * 5) i = invN (F i) := fun i hi => by rw [upI, if_pos (by omega)]

/-- What distance answers: the number, and whether the sizes are the same. -/
def DistRes (b : Bool) (n : Nat) (w : World) (e : Ending) (w' : World) : Prop := e = .returned (.tuple #[.int .i64 (if b then n else 0 : Nat), .bool b]) ∧ Below w.heap.size w w'
theorem dist_no {b : Bool} {n : Nat} {w : World} {w' : World} (hb : b = false) (h : Below w.heap.size w w') : DistRes b n w (.returned (.tuple #[.int .i64 0, .bool false])) w' := by subst hb; exact ⟨rfl, h⟩
set_option maxHeartbeats 1000000 in
theorem distance_any (F G : Nat → Int) (b : Bool) (w : World) (hb : b = true ↔ ∀ i, i < 25 → (F i = -1 ↔ G i = -1)) :
    Calls Try.prog 77 #[.agg (vec 25 F), .agg (vec 25 G)] w (DistRes b (cnt (fun i => F i != G i) 25) w) := by
  obtain ⟨p, hp⟩ : ∃ p : Nat → Bool, p = fun i => F i != G i := ⟨_, rfl⟩
  have hpp : Hid (∀ i, p i = (F i != G i)) := hide fun i => by rw [hp]
  rw [← hp]
  clear hp
  have HH := hide hb
  clear hb
  go_enter Try.func77, Try.ntmps77
  go_wp2_with (first | (with_reducible refine wpList_boxVec 25 F 2 rfl rfl (.tmp 0) rfl rfl ?_; intro w1 h1 b1 s1) | (with_reducible refine wpList_boxVec 25 G 3 rfl rfl (.tmp 1) rfl rfl ?_; intro wa ha ba sa) | (with_reducible refine wpList_loadVec (blk_below h1 ba) 11 rfl rfl _ rfl rfl Try.underlying78 Try.sizeImg ?_))
  have B1 := hide (b1.trans (ba.mono (by omega)))
  have HP := hide ha
  rw [s1] at HP
  clear h1 b1 ha ba s1 sa
  go_loopw [6, 12] (fun n i w' => ∃ y : Nat, y ≤ 5 ∧ i = .int .i64 y ∧ n = .int .i64 (cnt p (5 * y)) ∧ (∀ i, i < 5 * y → (F i = -1 ↔ G i = -1)) ∧ Blk w' (w.heap.size + 1) 78 25 G ∧ Below w.heap.size w w') (fun _ i _ => 5 - (intOf i).toNat)
  case atStart => exact ⟨0, by omega, rfl, rfl, fun i h => absurd h (Nat.not_lt_zero _), HP.out, B1.out⟩
  case round =>
    clear B1 HP
    obtain ⟨y, hy, rfl, rfl, hall, hp, hb⟩ := hrel
    have HP := hide hp; have HB := hide hb; have HL := hide hall
    clear hp hb hall
    by_cases hlt : y < 5
    · have hyI : (y : Int) < 5 := by omega
      go_wp2_with (first | (with_reducible refine wpList_indexRow y 15 rfl rfl _ _ rfl rfl rfl Try.underlying78 Try.isAgg76 Try.sizeOf76 hlt (by omega) ?_) | (with_reducible refine wpList_allocVec 5 8 rfl rfl rfl Try.zeroRow ?_; intro w2 h2 b2 s2) | (with_reducible refine wpList_storeVec h2 rfl (.tmp 8) (.tmp 15) rfl rfl rfl Try.sizeRow ?_; intro w3 h3 g3 s3) | (with_reducible refine wpList_loadVec h3 16 rfl rfl _ rfl rfl Try.underlying76 Try.sizeRow ?_))
      have B3 := hide (row_below HB.out b2 g3)
      have P3 := hide (row_blk HP.out b2 g3)
      clear h2 b2 s2 h3 g3 s3
      go_loopw [6, 17] (fun n i w' => ∃ x : Nat, x ≤ 5 ∧ i = .int .i64 x ∧ n = .int .i64 (cnt p (5 * y + x)) ∧ (∀ i, i < 5 * y + x → (F i = -1 ↔ G i = -1)) ∧ Blk w' (w.heap.size + 1) 78 25 G ∧ Below w.heap.size w w') (fun _ i _ => 5 - (intOf i).toNat)
      case atStart => exact ⟨0, by omega, rfl, rfl, HL.out, P3.out, B3.out⟩
      case round =>
        clear B3 P3 HB HP HL
        obtain ⟨x, hx, rfl, rfl, hall, hp, hb⟩ := hrel
        have HP := hide hp; have HB := hide hb; have HL := hide hall
        clear hp hb hall
        have hle := cnt_le p (5 * y + x)
        by_cases hlx : x < 5
        · have hxI : (x : Int) < 5 := by omega
          have hcl := blk_cell HP.out (5 * y + x) (by omega)
          have HA : Hid (0 + y * 5 + x * 1 = 5 * y + x) := hide (by omega)
          have HE : Hid (y * 5 + x = 5 * y + x) := hide (by omega)
          have HQ := hide (hpp.out (5 * y + x))
          have HN : (F (5 * y + x) = -1 ↔ G (5 * y + x) = -1) → ∀ i, i < 5 * y + (x + 1) → (F i = -1 ↔ G i = -1) := fun h i hi => by
            by_cases e : i = 5 * y + x
            · subst e; exact h
            · exact HL.out i (by omega)
          have HN := hide HN
          have HF0 : Hid (¬ (F (5 * y + x) = -1 ↔ G (5 * y + x) = -1) → b = false) := hide fun h => by
            cases hbb : b with
            | false => rfl
            | true => exact absurd (HH.out.1 hbb (5 * y + x) (by omega)) h
          obtain ⟨s, hs⟩ : ∃ s, s = F (5 * y + x) := ⟨_, rfl⟩
          obtain ⟨t, ht⟩ : ∃ t, t = G (5 * y + x) := ⟨_, rfl⟩
          have HSV := hide hs.symm
          rw [← hs, ← ht] at HQ HN HF0
          rw [← ht] at hcl
          clear hs ht
          by_cases hs1 : s = -1
          · have q1 : (s == -1) = true := by simpa using hs1
            by_cases ht1 : t = -1
            · have q2 : (t == -1) = true := by simpa using ht1
              have HST : Hid (s = t) := hide (by rw [hs1, ht1])
              have q3 : (s != t) = false := by simp [hs1, ht1]
              have HC := hide (cnt_no (p := p) (k := 5 * y + x) (by rw [HQ.out]; exact q3))
              have HN2 := hide (HN.out ⟨fun _ => ht1, fun _ => hs1⟩)
              subst hs1 ht1
              clear q1 q2 q3
              go_wp2_with (first | (with_reducible refine wpList_indexVec x 20 rfl rfl _ _ rfl rfl rfl Try.underlying76 Try.isAgg3 Try.sizeOf3 hlx ?_; rw [HE.out, HSV.out]) | (with_reducible refine wpList_indexAt y 25 rfl rfl _ _ rfl rfl rfl Try.underlying78 Try.sizeOf76 hlt ?_) | (with_reducible refine wpList_indexAt x 26 rfl rfl _ _ rfl rfl rfl Try.underlying76 Try.sizeOf3 hlx ?_; rw [HA.out]) | (with_reducible refine wpList_indexAt y 33 rfl rfl _ _ rfl rfl rfl Try.underlying78 Try.sizeOf76 hlt ?_) | (with_reducible refine wpList_indexAt x 34 rfl rfl _ _ rfl rfl rfl Try.underlying76 Try.sizeOf3 hlx ?_; rw [HA.out]))
              go_roundw
              case rel => exact ⟨x + 1, by omega, by go_num, by rw [← Nat.add_assoc, HC.out], HN2.out, HP.out, HB.out⟩
              case measure => simp [intOf]; omega
            · have q2 : (t == -1) = false := by simpa using ht1
              have HB0 := hide (HF0.out (fun h => ht1 (h.1 hs1)))
              subst hs1
              clear q1 ht1
              go_wp2_with (first | (with_reducible refine wpList_indexVec x 20 rfl rfl _ _ rfl rfl rfl Try.underlying76 Try.isAgg3 Try.sizeOf3 hlx ?_; rw [HE.out, HSV.out]) | (with_reducible refine wpList_indexAt y 25 rfl rfl _ _ rfl rfl rfl Try.underlying78 Try.sizeOf76 hlt ?_) | (with_reducible refine wpList_indexAt x 26 rfl rfl _ _ rfl rfl rfl Try.underlying76 Try.sizeOf3 hlx ?_; rw [HA.out]) | (with_reducible refine wpList_indexAt y 33 rfl rfl _ _ rfl rfl rfl Try.underlying78 Try.sizeOf76 hlt ?_) | (with_reducible refine wpList_indexAt x 34 rfl rfl _ _ rfl rfl rfl Try.underlying76 Try.sizeOf3 hlx ?_; rw [HA.out]))
              go_ret2
              exact dist_no HB0.out HB.out
          · have q1 : (s == -1) = false := by simpa using hs1
            by_cases ht1 : t = -1
            · have HB0 := hide (HF0.out (fun h => hs1 (h.2 ht1)))
              subst ht1
              clear hs1
              go_wp2_with (first | (with_reducible refine wpList_indexVec x 20 rfl rfl _ _ rfl rfl rfl Try.underlying76 Try.isAgg3 Try.sizeOf3 hlx ?_; rw [HE.out, HSV.out]) | (with_reducible refine wpList_indexAt y 25 rfl rfl _ _ rfl rfl rfl Try.underlying78 Try.sizeOf76 hlt ?_) | (with_reducible refine wpList_indexAt x 26 rfl rfl _ _ rfl rfl rfl Try.underlying76 Try.sizeOf3 hlx ?_; rw [HA.out]) | (with_reducible refine wpList_indexAt y 33 rfl rfl _ _ rfl rfl rfl Try.underlying78 Try.sizeOf76 hlt ?_) | (with_reducible refine wpList_indexAt x 34 rfl rfl _ _ rfl rfl rfl Try.underlying76 Try.sizeOf3 hlx ?_; rw [HA.out]))
              go_ret2
              exact dist_no HB0.out HB.out
            · have q2 : (t == -1) = false := by simpa using ht1
              have HN2 := hide (HN.out ⟨fun h => absurd h hs1, fun h => absurd h ht1⟩)
              clear hs1 ht1
              by_cases hst : s = t
              · subst hst
                have HC := hide (cnt_no (p := p) (k := 5 * y + x) (by rw [HQ.out]; simp))
                go_wp2_with (first | (with_reducible refine wpList_indexVec x 20 rfl rfl _ _ rfl rfl rfl Try.underlying76 Try.isAgg3 Try.sizeOf3 hlx ?_; rw [HE.out, HSV.out]) | (with_reducible refine wpList_indexAt y 25 rfl rfl _ _ rfl rfl rfl Try.underlying78 Try.sizeOf76 hlt ?_) | (with_reducible refine wpList_indexAt x 26 rfl rfl _ _ rfl rfl rfl Try.underlying76 Try.sizeOf3 hlx ?_; rw [HA.out]) | (with_reducible refine wpList_indexAt y 33 rfl rfl _ _ rfl rfl rfl Try.underlying78 Try.sizeOf76 hlt ?_) | (with_reducible refine wpList_indexAt x 34 rfl rfl _ _ rfl rfl rfl Try.underlying76 Try.sizeOf3 hlx ?_; rw [HA.out]))
                go_roundw
                case rel => exact ⟨x + 1, by omega, by go_num, by rw [← Nat.add_assoc, HC.out], HN2.out, HP.out, HB.out⟩
                case measure => simp [intOf]; omega
              · have q3 : (s != t) = true := by simpa using hst
                have HC := hide (cnt_yes (p := p) (k := 5 * y + x) (by rw [HQ.out]; exact q3))
                clear hst
                go_wp2_with (first | (with_reducible refine wpList_indexVec x 20 rfl rfl _ _ rfl rfl rfl Try.underlying76 Try.isAgg3 Try.sizeOf3 hlx ?_; rw [HE.out, HSV.out]) | (with_reducible refine wpList_indexAt y 25 rfl rfl _ _ rfl rfl rfl Try.underlying78 Try.sizeOf76 hlt ?_) | (with_reducible refine wpList_indexAt x 26 rfl rfl _ _ rfl rfl rfl Try.underlying76 Try.sizeOf3 hlx ?_; rw [HA.out]) | (with_reducible refine wpList_indexAt y 33 rfl rfl _ _ rfl rfl rfl Try.underlying78 Try.sizeOf76 hlt ?_) | (with_reducible refine wpList_indexAt x 34 rfl rfl _ _ rfl rfl rfl Try.underlying76 Try.sizeOf3 hlx ?_; rw [HA.out]))
                go_roundw
                case rel => exact ⟨x + 1, by omega, by go_num, by rw [← Nat.add_assoc, HC.out]; go_num, HN2.out, HP.out, HB.out⟩
                case measure => simp [intOf]; omega
        · obtain rfl : x = 5 := by omega
          go_wp2
          go_roundw
          case rel => exact ⟨y + 1, by omega, by go_num, by rw [show 5 * (y + 1) = 5 * y + 5 by omega], HL.out, HP.out, HB.out⟩
          case measure => simp [intOf]; omega
    · obtain rfl : y = 5 := by omega
      have hbt : b = true := HH.out.2 HL.out
      subst hbt
      go_wp2
      go_ret2
      exact ⟨rfl, HB.out⟩

/-- Numbers put over others, from place o on. -/
def overF (F : Nat → Int) (o : Nat) (r : List Int) (j : Nat) : Int := if o ≤ j ∧ j < o + r.length then r.getD (j - o) 0 else F j
theorem blk_setCells {g n : Nat} {T : TypeId} : ∀ (r : List Int) (o : Nat) (w : World) (F : Nat → Int), Blk w g T n F → Blk (w.setCells g o (ints r)) g T n (overF F o r) ∧ w.grownBy (w.setCells g o (ints r)) (some g) ∧ (w.setCells g o (ints r)).heap.size = w.heap.size
  | [], o, w, F, h => ⟨blk_congr h fun i _ => by simp only [overF, List.length_nil]; rw [if_neg (by omega)], ⟨rfl, rfl, rfl, Nat.le_refl _, fun _ _ _ => rfl⟩, rfl⟩
  | x :: r, o, w, F, h => by
    have h1 := blk_set h o x
    obtain ⟨h2, h3, h4⟩ := blk_setCells r (o + 1) _ _ h1
    refine ⟨blk_congr h2 fun i _ => ?_, ?_, ?_⟩
    · simp only [overF, List.length_cons]
      by_cases e : i = o
      · subst e; rw [if_neg (by omega), if_pos rfl, if_pos (by omega), Nat.sub_self]; rfl
      · by_cases hl : o + 1 ≤ i ∧ i < o + 1 + r.length
        · rw [if_pos hl, if_pos (by omega), show i - o = (i - (o + 1)) + 1 by omega]; rfl
        · rw [if_neg hl, if_neg e, if_neg (by omega)]
    · refine grown_trans (b := w.setCell ⟨g, o, none⟩ (.int .i64 x)) ⟨rfl, rfl, rfl, by simp [World.setCell], fun k _ hr => heap_setCell_other w _ k _ fun e => hr (by rw [e])⟩ h3
    · show ((w.setCell ⟨g, o, none⟩ (.int .i64 x)).setCells g (o + 1) (ints r)).heap.size = w.heap.size
      rw [h4]; simp [World.setCell]
theorem vec_ints (n : Nat) (F : Nat → Int) : vecL n F = ints (rowF n F) := by simp [vecL, ints, rowF]

/-- A row goes into the middle of a variable. -/
theorem wpList_storeMid {P : Program} {ops : Array Oper} {rest : List Oper} {o : Oper} {a : Act} {Q : Exit → Act → World → Prop} {W : World} {g b n s : Nat} {T T' : TypeId} {F G : Nat → Int} (hb : Blk W g T n F)
    (hgd : o.guard = none) (x y : Operand) (ho : o.op = .store T' x y) (hx : a.eval x = .pointer (some ⟨g, b, none⟩)) (hy : a.eval y = .agg (vec s G)) (hi : (P.info? T').map (·.size) = some s) (hn : b + s ≤ n)
    (h : ∀ w', Blk w' g T n (fun j => if b ≤ j ∧ j < b + s then G (j - b) else F j) → W.grownBy w' (some g) → w'.heap.size = W.heap.size → wpList P ops Q rest (a.put o.dst undef) w') : wpList P ops Q (o :: rest) a W := by
  refine wpList_store_mid hgd T' x y ho g b (vec s G) hx hy (fun j hj => ?_) (by rw [hi, vec_size]) (vec_one s G) ?_
  · rw [vec_size] at hj
    exact ⟨by rw [blk_cell hb (b + j) (by omega)]; rfl, blk_frozen hb _⟩
  · have e : (vec s G).toList = ints (rowF s G) := by rw [← vec_ints]; rfl
    obtain ⟨h1, h2, h3⟩ := blk_setCells (rowF s G) b W F hb
    rw [e]
    refine h _ (blk_congr h1 fun i _ => ?_) h2 h3
    simp only [overF, rowF_len]
    by_cases hl : b ≤ i ∧ i < b + s
    · rw [if_pos hl, if_pos hl, List.getD_eq_getElem?_getD, List.getElem?_eq_getElem (by rw [rowF_len]; omega), Option.getD_some, rowF_at]
    · rw [if_neg hl, if_neg hl]

def mirR (n : Nat) (G : Nat → Int) (j : Nat) : Int := if j < n then G (n - 1 - j) else G j
end Go.Proofs.Ytcliiefedmiokaa
/-
  The program's images: mirrored; the exported functions.
-/
namespace Go.Proofs.Ytcliiefedmiokaa
open Go.RowKit

def mirM (C : Nat) (f : Nat → Nat → Int) (y x : Nat) : Int := f y (C - 1 - x)
def upMir (R C : Nat) (f : Nat → Nat → Int) (y : Nat) (i : Nat) : Int := if i / 5 < y then imgF R C (mirM C f) i else imgF R C f i
theorem upMir_zero (R C : Nat) (f : Nat → Nat → Int) : upMir R C f 0 = imgF R C f := by funext i; simp [upMir]
theorem upMir_all (R C : Nat) (f : Nat → Nat → Int) : ∀ i, i < 25 → upMir R C f 5 i = imgF R C (mirM C f) i := fun i hi => by rw [upMir, if_pos (by omega)]
theorem upMir_step (R C : Nat) (f : Nat → Nat → Int) (y n : Nat) (hC : C ≤ 5) (hn : n = if y < R then C else 0) : ∀ i, i < 25 →
    (if 0 + y * 5 ≤ i ∧ i < 0 + y * 5 + 5 then mirR n (fun j => imgF R C f (y * 5 + j)) (i - (0 + y * 5)) else upMir R C f y i) = upMir R C f (y + 1) i := fun i hi => by
  by_cases hl : 0 + y * 5 ≤ i ∧ i < 0 + y * 5 + 5
  · rw [if_pos hl, upMir, if_pos (by omega)]
    simp only [mirR, imgF]
    have e1 : i / 5 = y := by omega
    have e2 : i - (0 + y * 5) = i % 5 := by omega
    rw [e1, e2]
    by_cases hy : y < R
    · rw [if_pos hy] at hn
      subst hn
      by_cases hx : i % 5 < n
      · rw [if_pos hx, if_pos (by omega), if_pos ⟨hy, hx⟩, mirM, show (y * 5 + (n - 1 - i % 5)) / 5 = y by omega, show (y * 5 + (n - 1 - i % 5)) % 5 = n - 1 - i % 5 by omega]
      · rw [if_neg hx, if_neg (by omega), if_neg (by omega)]
    · rw [if_neg hy] at hn
      subst hn
      rw [if_neg (by omega), if_neg (by omega), if_neg (by omega)]
  · rw [if_neg hl, upMir, upMir]
    by_cases h2 : i / 5 < y
    · rw [if_pos h2, if_pos (by omega)]
    · rw [if_neg h2, if_neg (by omega)]

end Go.Proofs.Ytcliiefedmiokaa
/-
  The program's exported functions on images.
-/
namespace Go.Proofs.Ytcliiefedmiokaa
open Go.RowKit

def trM (f : Nat → Nat → Int) (y x : Nat) : Int := f x y
def invM (f : Nat → Nat → Int) (y x : Nat) : Int := 1 - f y x
theorem img_tr {R C : Nat} {f : Nat → Nat → Int} (h : Img R C f) : Img C R (trM f) := ⟨h.c1, h.c2, h.r1, h.r2, fun y x hy hx => h.cell x y hx hy⟩
theorem img_mir {R C : Nat} {f : Nat → Nat → Int} (h : Img R C f) : Img R C (mirM C f) := ⟨h.r1, h.r2, h.c1, h.c2, fun y x hy hx => h.cell y (C - 1 - x) hy (by omega)⟩
theorem img_inv {R C : Nat} {f : Nat → Nat → Int} (h : Img R C f) : Img R C (invM f) := ⟨h.r1, h.r2, h.c1, h.c2, fun y x hy hx => by rcases h.cell y x hy hx with e | e <;> simp [invM, e]⟩
theorem transposed_img (R C : Nat) (f : Nat → Nat → Int) (w : World) (_hI : Img R C f) :
    Calls Try.prog 105 #[.agg (vec 25 (imgF R C f))] w fun e w' => e = .returned (.agg (vec 25 (imgF C R (trM f)))) ∧ Below w.heap.size w w' := by
  rw [← vec_congr (n := 25) (F := fun i => imgF R C f (5 * (i % 5) + i / 5)) (G := imgF C R (trM f)) fun i hi => ?_]
  · exact transposed_any _ _
  · simp only [imgF, trM, show (5 * (i % 5) + i / 5) / 5 = i % 5 by omega, show (5 * (i % 5) + i / 5) % 5 = i / 5 by omega]
    by_cases h : i % 5 < R ∧ i / 5 < C
    · rw [if_pos h, if_pos ⟨h.2, h.1⟩]
    · rw [if_neg h, if_neg fun e => h ⟨e.2, e.1⟩]
set_option maxHeartbeats 400000 in
theorem implTransposeOf_no (v : Value) (m : List (List Int)) (w : World) (hin : InMat w v m) (h : okB m = false) :
    Calls Try.prog 56 #[v] w (MatRes [] w) := by
  have HI := hide hin; have H := hide h
  clear hin h
  go_enter Try.func56, Try.ntmps56
  go_wp2_with fail
  refine (imageOf_no v m _ HI.out H.out).mono ?_
  rintro e w1 ⟨rfl, b1⟩
  have B1 := hide b1
  clear b1
  go_wp2_with (first | (with_reducible refine wpList_allocVec 25 3 rfl rfl rfl Try.zeroImg ?_; intro wa ha ba sa) | (with_reducible refine wpList_storeVec ha rfl (.tmp 3) (.tmp 8) rfl rfl rfl Try.sizeImg ?_; intro wb hb gb sb) | (with_reducible refine wpList_loadVec hb 12 rfl rfl _ rfl rfl Try.underlying78 Try.sizeImg ?_))
  go_ret
  exact matRes_nil (B1.out.trans ((ba.mono B1.out.size).trans (grown_below gb (fun k hk => by cases hk; exact B1.out.size) (by have := B1.out.size; omega))))
set_option maxHeartbeats 400000 in
theorem implTransposeOf_yes (v : Value) (R C : Nat) (f : Nat → Nat → Int) (w : World) (hin : InMat w v (mkM R C f)) (hI : Img R C f) :
    Calls Try.prog 56 #[v] w (MatRes (mkM C R (trM f)) w) := by
  have HI := hide hin; have H := hide hI
  clear hin hI
  go_enter Try.func56, Try.ntmps56
  go_wp2_with fail
  refine (imageOf_yes v R C f _ HI.out H.out).mono ?_
  rintro e w1 ⟨rfl, b1⟩
  have B1 := hide b1
  clear b1
  go_wp2_with (first | (with_reducible refine wpList_allocVec 25 3 rfl rfl rfl Try.zeroImg ?_; intro wa ha ba sa) | (with_reducible refine wpList_storeVec ha rfl (.tmp 3) (.tmp 8) rfl rfl rfl Try.sizeImg ?_; intro wb hb gb sb) | (with_reducible refine wpList_loadVec hb 12 rfl rfl _ rfl rfl Try.underlying78 Try.sizeImg ?_))
  have B2 := hide (B1.out.trans ((ba.mono B1.out.size).trans (grown_below gb (fun k hk => by cases hk; exact B1.out.size) (by have := B1.out.size; omega))))
  clear ha ba sa hb gb sb
  refine (transposed_img R C f _ H.out).mono ?_
  rintro e w3 ⟨rfl, b3⟩
  have B3 := hide (B2.out.trans (b3.mono B2.out.size))
  clear b3
  go_wp2_with fail
  refine (lists_any C R (trM f) _ (img_tr H.out)).mono ?_
  rintro e w4 ⟨v4, rfl, o4, b4⟩
  have O4 := hide (ownMat_mono o4 B3.out.size (Nat.le_refl _)); have B4 := hide (B3.out.trans (b4.mono B3.out.size))
  clear o4 b4
  go_wp2
  go_ret
  exact ⟨_, rfl, O4.out, B4.out⟩

set_option maxHeartbeats 400000 in
theorem implCellAt_no (v : Value) (m : List (List Int)) (y x : Int) (w : World) (hin : InMat w v m) (h : okB m = false) :
    Calls Try.prog 86 #[v, .int .i64 y, .int .i64 x] w fun e w' => e = .returned (.int .i64 (-1)) ∧ Below w.heap.size w w' := by
  have HI := hide hin; have H := hide h
  clear hin h
  go_enter Try.func86, Try.ntmps86
  go_wp2_with fail
  refine (imageOf_no v m _ HI.out H.out).mono ?_
  rintro e w1 ⟨rfl, b1⟩
  have B1 := hide b1
  clear b1
  go_wp2_with (first | (with_reducible refine wpList_allocVec 25 7 rfl rfl rfl Try.zeroImg ?_; intro wa ha ba sa) | (with_reducible refine wpList_storeVec ha rfl (.tmp 7) (.tmp 12) rfl rfl rfl Try.sizeImg ?_; intro wb hb gb sb) | (with_reducible refine wpList_loadVec hb 16 rfl rfl _ rfl rfl Try.underlying78 Try.sizeImg ?_))
  go_ret
  exact ⟨rfl, B1.out.trans ((ba.mono B1.out.size).trans (grown_below gb (fun k hk => by cases hk; exact B1.out.size) (by have := B1.out.size; omega)))⟩
/-- The cell of a valid image, or -1. -/
def atM (R C : Nat) (f : Nat → Nat → Int) (y x : Int) : Int := if 0 ≤ y ∧ y < R ∧ 0 ≤ x ∧ x < C then f y.toNat x.toNat else -1
theorem cell_img (R C : Nat) (f : Nat → Nat → Int) (y x : Int) (w : World) (hI : Img R C f) :
    Calls Try.prog 118 #[.agg (vec 25 (imgF R C f)), .int .i64 y, .int .i64 x] w fun e w' => e = .returned (.int .i64 (atM R C f y x)) ∧ Below w.heap.size w w' := by
  have hR := hI.r2; have hC := hI.c2
  by_cases h : y < 0 ∨ 5 ≤ y ∨ x < 0 ∨ 5 ≤ x
  · refine (cell_out (imgF R C f) y x w h).mono ?_
    rintro e w' ⟨rfl, hb⟩
    exact ⟨by rw [atM, if_neg (by omega)], hb⟩
  · obtain ⟨a, rfl⟩ : ∃ a : Nat, y = a := ⟨y.toNat, by omega⟩
    obtain ⟨b, rfl⟩ : ∃ b : Nat, x = b := ⟨x.toNat, by omega⟩
    refine (cell_in (imgF R C f) a b w (by omega) (by omega)).mono ?_
    rintro e w' ⟨rfl, hb⟩
    refine ⟨ret_int ?_, hb⟩
    rw [imgF_at _ _ _ _ _ (by omega), atM]
    by_cases h2 : a < R ∧ b < C
    · rw [if_pos h2, if_pos (by omega)]; rfl
    · rw [if_neg h2, if_neg (by omega)]
set_option maxHeartbeats 400000 in
theorem implCellAt_yes (v : Value) (R C : Nat) (f : Nat → Nat → Int) (y x : Int) (w : World) (hin : InMat w v (mkM R C f)) (hI : Img R C f) :
    Calls Try.prog 86 #[v, .int .i64 y, .int .i64 x] w fun e w' => e = .returned (.int .i64 (atM R C f y x)) ∧ Below w.heap.size w w' := by
  have HI := hide hin; have H := hide hI
  clear hin hI
  go_enter Try.func86, Try.ntmps86
  go_wp2_with fail
  refine (imageOf_yes v R C f _ HI.out H.out).mono ?_
  rintro e w1 ⟨rfl, b1⟩
  have B1 := hide b1
  clear b1
  go_wp2_with (first | (with_reducible refine wpList_allocVec 25 7 rfl rfl rfl Try.zeroImg ?_; intro wa ha ba sa) | (with_reducible refine wpList_storeVec ha rfl (.tmp 7) (.tmp 12) rfl rfl rfl Try.sizeImg ?_; intro wb hb gb sb) | (with_reducible refine wpList_loadVec hb 16 rfl rfl _ rfl rfl Try.underlying78 Try.sizeImg ?_))
  have B2 := hide (B1.out.trans ((ba.mono B1.out.size).trans (grown_below gb (fun k hk => by cases hk; exact B1.out.size) (by have := B1.out.size; omega))))
  clear ha ba sa hb gb sb
  refine (cell_img R C f y x _ H.out).mono ?_
  rintro e w3 ⟨rfl, b3⟩
  have B3 := hide (B2.out.trans (b3.mono B2.out.size))
  clear b3
  go_wp2
  go_ret
  exact ⟨rfl, B3.out⟩

theorem img_zero {R C : Nat} (hR : 1 ≤ R ∧ R ≤ 5) (hC : 1 ≤ C ∧ C ≤ 5) : Img R C zeroM := ⟨hR.1, hR.2, hC.1, hC.2, fun _ _ _ _ => .inl rfl⟩
theorem whiteImage_img (R C : Nat) (w : World) :
    Calls Try.prog 115 #[.int .i64 R, .int .i64 C] w fun e w' => e = .returned (.agg (vec 25 (imgF R C zeroM))) ∧ Below w.heap.size w w' := by
  rw [← vec_congr (n := 25) (F := whiteF R C) (G := imgF R C zeroM) fun i hi => ?_]
  · exact whiteImage_any _ _ _
  · simp only [whiteF, imgF, zeroM]
    by_cases h : i / 5 < R ∧ i % 5 < C
    · rw [if_pos h, if_neg (by omega)]
    · rw [if_neg h, if_pos (by omega)]
end Go.Proofs.Ytcliiefedmiokaa
/-
  The model's functions on images.
-/
namespace Go.Proofs.Ytcliiefedmiokaa
open Go.RowKit

def inM (m : List (List Int)) (y x : Int) : Bool := okB m && decide (0 ≤ y ∧ y < m.length) && decide (0 ≤ x ∧ x < widthM m)
set_option maxHeartbeats 400000 in
theorem l02In_no (v : Value) (m : List (List Int)) (y x : Int) (w : World) (hin : InMat w v m) (h : okB m = false) :
    Calls Try.prog 84 #[v, .int .i64 y, .int .i64 x] w fun e w' => e = .returned (.bool false) ∧ w = w' := by
  have HI := hide hin; have H := hide h
  clear hin h
  go_enter Try.func84, Try.ntmps84
  go_wp2_with (with_reducible refine (specImageOk_any v m _ HI.out).mono ?_; rw [H.out]; rintro e w' ⟨rfl, rfl⟩)
  go_ret
  exact ⟨rfl, rfl⟩
set_option maxHeartbeats 400000 in
theorem l02In_img (v : Value) (R C : Nat) (f : Nat → Nat → Int) (y x : Int) (w : World) (hin : InMat w v (mkM R C f)) (hI : Img R C f) (b : Bool) (hb : b = true ↔ (0 ≤ y ∧ y < R ∧ 0 ≤ x ∧ x < C)) :
    Calls Try.prog 84 #[v, .int .i64 y, .int .i64 x] w fun e w' => e = .returned (.bool b) ∧ w = w' := by
  have HI := hide hin; have H := hide (img_ok hI)
  have hR := hI.r2; have hR1 := hI.r1; have hC := hI.c2; have hC1 := hI.c1
  obtain ⟨g, o, c, rfl, hg, hcell⟩ := inMat_img hin (by omega) (by omega)
  obtain ⟨g0, o0, c0, hx0, -⟩ := hcell 0 (by omega)
  rw [Nat.add_zero] at hx0
  have HB := hide hb
  clear hin hI hcell hb
  by_cases h1 : 0 ≤ y ∧ y ≤ (R : Int) - 1
  · have H1 := hide (decide_eq_true h1)
    by_cases h2 : 0 ≤ x ∧ x ≤ (C : Int) - 1
    · have H2 := hide (decide_eq_true h2)
      have HT : Hid (b = true) := hide (HB.out.2 (by omega))
      clear h1 h2
      go_enter Try.func84, Try.ntmps84
      go_wp2_with (first | (with_reducible refine (specImageOk_any _ _ _ HI.out).mono ?_; rw [H.out]; rintro e w' ⟨rfl, rfl⟩) | (with_reducible refine (l01In_any y 0 ((R : Int) - 1) _).mono ?_; rw [H1.out]; rintro e w' ⟨rfl, rfl⟩) | (with_reducible refine (l01In_any x 0 ((C : Int) - 1) _).mono ?_; rw [H2.out]; rintro e w' ⟨rfl, rfl⟩))
      go_ret
      exact ⟨ret_bool HT.out.symm, rfl⟩
    · have H2 := hide (decide_eq_false h2)
      have HT : Hid (b = false) := hide (by rw [Bool.eq_false_iff]; intro e; have := HB.out.1 e; omega)
      clear h1 h2
      go_enter Try.func84, Try.ntmps84
      go_wp2_with (first | (with_reducible refine (specImageOk_any _ _ _ HI.out).mono ?_; rw [H.out]; rintro e w' ⟨rfl, rfl⟩) | (with_reducible refine (l01In_any y 0 ((R : Int) - 1) _).mono ?_; rw [H1.out]; rintro e w' ⟨rfl, rfl⟩) | (with_reducible refine (l01In_any x 0 ((C : Int) - 1) _).mono ?_; rw [H2.out]; rintro e w' ⟨rfl, rfl⟩))
      go_ret
      exact ⟨ret_bool HT.out.symm, rfl⟩
  · have H1 := hide (decide_eq_false h1)
    have HT : Hid (b = false) := hide (by rw [Bool.eq_false_iff]; intro e; have := HB.out.1 e; omega)
    clear h1
    go_enter Try.func84, Try.ntmps84
    go_wp2_with (first | (with_reducible refine (specImageOk_any _ _ _ HI.out).mono ?_; rw [H.out]; rintro e w' ⟨rfl, rfl⟩) | (with_reducible refine (l01In_any y 0 ((R : Int) - 1) _).mono ?_; rw [H1.out]; rintro e w' ⟨rfl, rfl⟩))
    go_ret
    exact ⟨ret_bool HT.out.symm, rfl⟩

theorem cnt_row {R C : Nat} {f : Nat → Nat → Int} (p : Nat → Bool) (hp : ∀ i, imgF R C f i = -1 → p i = false) (y : Nat) (hC : C ≤ 5) : cnt p (5 * (y + 1)) = cnt p (5 * y + C) :=
  cnt_skip (by omega) fun i h1 h2 => hp i (by rw [imgF, if_neg (by omega)])
theorem cnt_end {R C : Nat} {f : Nat → Nat → Int} (p : Nat → Bool) (hp : ∀ i, imgF R C f i = -1 → p i = false) (hR : R ≤ 5) : cnt p 25 = cnt p (5 * R) :=
  cnt_skip (by omega) fun i h1 h2 => hp i (by rw [imgF, if_neg (by omega)])
end Go.Proofs.Ytcliiefedmiokaa
/-
  Worlds that have grown: some draws, some blocks laid behind.
-/
namespace Go.Proofs.Ytcliiefedmiokaa
open Go.RowKit

/-- After some draws, with some blocks laid behind. -/
def GrownW (w w' : World) : Prop := ∃ q os, w' = Go.Sort.grow (w.drewN q) os
theorem grownW_refl (w : World) : GrownW w w := ⟨0, #[], by rw [Go.Sort.grow_empty]; rfl⟩
theorem grownW_grow (w : World) (q : Nat) (os : Array Obj) : GrownW w (Go.Sort.grow (w.drewN q) os) := ⟨q, os, rfl⟩
theorem grownW_trans {a b c : World} (h : GrownW a b) (k : GrownW b c) : GrownW a c := by
  obtain ⟨q, os, rfl⟩ := h
  obtain ⟨p, os', rfl⟩ := k
  exact ⟨q + p, os ++ os', by show Go.Sort.grow (Go.Sort.grow ((a.drewN q).drewN p) os) os' = _; rw [Go.Sort.grow_grow, World.drewN_drewN]⟩
theorem grownW_alloc (w : World) (o : Obj) : GrownW w (w.alloc o) := ⟨0, #[o], by rw [Go.Sort.alloc_eq_grow]; rfl⟩
theorem grownW_below {w w' : World} (h : GrownW w w') : Below w.heap.size w w' := by
  obtain ⟨q, os, rfl⟩ := h
  refine ⟨rfl, rfl, rfl, ?_, fun k hk => ?_⟩
  · show w.heap.size ≤ (w.heap ++ os).size
    rw [Array.size_append]; omega
  · show (w.heap ++ os)[k]? = _
    rw [Array.getElem?_append_left hk]
theorem quiet_of {P : Program} {f : FuncId} {args : Array Value} {w : World} {n : Nat} {os : Array Obj} {v : Value} (h : Calls P f args (Go.Sort.grow (w.drewN n) os) fun e w' => e = .returned v ∧ GrownW (Go.Sort.grow (w.drewN n) os) w') :
    Calls P f args (Go.Sort.grow (w.drewN n) os) fun e w'' => e = .returned v ∧ ∃ p : GrownBy, w'' = Go.Sort.grow (w.drewN p.n) p.os := Calls.grown_of h
end Go.Proofs.Ytcliiefedmiokaa
/-
  Switches as values and in variables; a cell of an image; whether a switch is one of an image.
-/
namespace Go.Proofs.Ytcliiefedmiokaa
open Go.RowKit

def swA (s : Sw) : Array Value := #[.int .i64 s.y1, .int .i64 s.y2, .int .i64 s.x1, .int .i64 s.x2]
def swV (s : Sw) : Value := .agg (swA s)
/-- A switch in a variable. -/
def SwAt (w : World) (g : Nat) (s : Sw) : Prop := w.heap[g]? = some (.cells (swA s) 45 (0, 0))
theorem swAt_lt {w : World} {g : Nat} {s : Sw} (h : SwAt w g s) : g < w.heap.size := (Array.getElem?_eq_some_iff.1 h).1
theorem swAt_below {w w' : World} {g : Nat} {s : Sw} (h : SwAt w g s) (hb : Below w.heap.size w w') : SwAt w' g s := by
  unfold SwAt; rw [hb.block g (swAt_lt h)]; exact h
theorem swAt_grown {w w' : World} {g : Nat} {s : Sw} {row : Option Nat} (h : SwAt w g s) (hg : w.grownBy w' row) (hr : row ≠ some g) : SwAt w' g s := by
  unfold SwAt; rw [hg.block g (swAt_lt h) (Ne.symm hr)]; exact h
theorem swAt_cells {w : World} {g : Nat} {s : Sw} (h : SwAt w g s) : w.cell? ⟨g, 0, none⟩ = some (.int .i64 s.y1) ∧ w.cell? ⟨g, 1, none⟩ = some (.int .i64 s.y2) ∧ w.cell? ⟨g, 2, none⟩ = some (.int .i64 s.x1) ∧ w.cell? ⟨g, 3, none⟩ = some (.int .i64 s.x2) :=
  ⟨by rw [cell_of_row w g 0 _ _ _ h]; rfl, by rw [cell_of_row w g 1 _ _ _ h]; rfl, by rw [cell_of_row w g 2 _ _ _ h]; rfl, by rw [cell_of_row w g 3 _ _ _ h]; rfl⟩
theorem Try.sizeSw : (Try.prog.info? 45).map (·.size) = some 4 := by kernel_rfl
theorem swA_size (s : Sw) : (swA s).size = 4 := rfl
theorem swA_one (s : Sw) : (swA s).all (·.oneCell') = true := by simp [swA, Value.oneCell']
theorem wpList_loadSw {ops : Array Oper} {rest : List Oper} {o : Oper} {a : Act} {Q : Exit → Act → World → Prop} {W : World} {g : Nat} {s : Sw} (hb : SwAt W g s)
    (d : Tmp) (_hd : o.dst = some d) (hgd : o.guard = none) (x : Operand) (ho : o.op = .load 45 x) (hx : a.eval x = .pointer (some ⟨g, 0, none⟩))
    (h : wpList Try.prog ops Q rest (a.put o.dst (swV s)) W) : wpList Try.prog ops Q (o :: rest) a W :=
  wpList_load_row hgd _ x ho g hx _ _ (0, 0) _ hb Try.underlying45 rfl Try.sizeSw h
theorem exec_loadSw {ρ : Operand → Value} {o : Oper} {w : World} {x : Operand} {g : Nat} {s : Sw} (ho : o.op = .load 45 x) (hx : ρ x = .pointer (some ⟨g, 0, none⟩)) (hb : SwAt w g s) : (execOp ρ o).run Try.prog w = .ok (.value (swV s)) w := by
  unfold execOp
  simp only [ho, hx]
  have hc := swAt_cells hb
  obtain ⟨h0, h1, h2, h3⟩ := hc
  go_simp
  rfl
theorem swAt_new (w : World) (s : Sw) : SwAt (w.alloc (.cells (swA s) 45)) w.heap.size s := heap_alloc_new w _
/-- A switch goes into a new variable. -/
theorem wpList_boxSw {P : Program} {ops : Array Oper} {rest : List Oper} {o : Oper} {a : Act} {Q : Exit → Act → World → Prop} {W : World} (s : Sw)
    (d : Tmp) (_hd : o.dst = some d) (hgd : o.guard = none) (x : Operand) (ho : o.op = .box 45 x) (hx : a.eval x = swV s)
    (h : ∀ w', SwAt w' W.heap.size s → Below W.heap.size W w' → w'.heap.size = W.heap.size + 1 → wpList P ops Q rest (a.put o.dst (.pointer (some ⟨W.heap.size, 0, none⟩))) w') : wpList P ops Q (o :: rest) a W := by
  refine wpList_plain hgd fun K hK => ?_
  unfold Oper.wp execOp
  simp only [ho, hx, Instr.box, Sem.run_bind]
  simp [newVar, newRow, Value.cells, swV]
  exact hK _ _ (h _ (swAt_new W s) ((Below.refl _ _).alloc (Nat.le_refl _) _) (by simp))

/-- The cell of five rows of five, -1 outside. -/
def cellF (F : Nat → Int) (y x : Int) : Int := if 0 ≤ y ∧ y < 5 ∧ 0 ≤ x ∧ x < 5 then F (5 * y.toNat + x.toNat) else -1
theorem cell_any (F : Nat → Int) (y x : Int) (w : World) :
    Calls Try.prog 118 #[.agg (vec 25 F), .int .i64 y, .int .i64 x] w fun e w' => e = .returned (.int .i64 (cellF F y x)) ∧ Below w.heap.size w w' := by
  by_cases h : y < 0 ∨ 5 ≤ y ∨ x < 0 ∨ 5 ≤ x
  · have := cell_out F y x w h
    rw [cellF, if_neg (by omega)]; exact this
  · obtain ⟨a, rfl⟩ : ∃ a : Nat, y = a := ⟨y.toNat, by omega⟩
    obtain ⟨b, rfl⟩ : ∃ b : Nat, x = b := ⟨x.toNat, by omega⟩
    have := cell_in F a b w (by omega) (by omega)
    rw [cellF, if_pos (by omega)]; exact this
/-- Whether the switch is one of the image. -/
def hasF (F : Nat → Int) (s : Sw) : Bool :=
  decide (s.y1 < s.y2) && decide (s.x1 < s.x2) && decide (cellF F s.y1 s.x1 ≠ cellF F s.y1 s.x2) && decide (cellF F s.y2 s.x1 = cellF F s.y1 s.x2) && decide (cellF F s.y2 s.x2 = cellF F s.y1 s.x1)
theorem cellF_img {R C : Nat} {f : Nat → Nat → Int} (h : Img R C f) (y x : Int) : cellF (imgF R C f) y x = if 0 ≤ y ∧ y < R ∧ 0 ≤ x ∧ x < C then f y.toNat x.toNat else -1 := by
  have hR := h.r2; have hC := h.c2
  unfold cellF
  by_cases h0 : 0 ≤ y ∧ y < 5 ∧ 0 ≤ x ∧ x < 5
  · rw [if_pos h0, imgF_at _ _ _ _ _ (by omega)]
    by_cases h1 : 0 ≤ y ∧ y < R ∧ 0 ≤ x ∧ x < C
    · rw [if_pos (by omega), if_pos h1]
    · rw [if_neg (by omega), if_neg h1]
  · rw [if_neg h0, if_neg (by omega)]
theorem hasF_img {R C : Nat} {f : Nat → Nat → Int} (h : Img R C f) (s : Sw) : hasF (imgF R C f) s = swF R C f s := by
  have hR := h.r2; have hC := h.c2
  obtain ⟨y1, y2, x1, x2⟩ := s
  rw [Bool.eq_iff_iff]
  simp only [hasF, cellF_img h, swF, four, Bool.and_eq_true, decide_eq_true_eq]
  by_cases hh : (0 ≤ y1 ∧ 0 ≤ x1) ∧ y1 < y2 ∧ x1 < x2
  · obtain ⟨⟨h1, h2⟩, h3, h4⟩ := hh
    obtain ⟨a, rfl⟩ : ∃ a : Nat, y1 = a := ⟨y1.toNat, by omega⟩
    obtain ⟨b, rfl⟩ : ∃ b : Nat, y2 = b := ⟨y2.toNat, by omega⟩
    obtain ⟨c, rfl⟩ : ∃ c : Nat, x1 = c := ⟨x1.toNat, by omega⟩
    obtain ⟨d, rfl⟩ : ∃ d : Nat, x2 = d := ⟨x2.toNat, by omega⟩
    simp only [Int.toNat_natCast]
    by_cases hb : b < R ∧ d < C
    · obtain ⟨hb, hd⟩ := hb
      have e1 := h.cell a c (by omega) (by omega); have e2 := h.cell a d (by omega) (by omega); have e3 := h.cell b c (by omega) (by omega); have e4 := h.cell b d (by omega) (by omega)
      rw [if_pos (by omega), if_pos (by omega), if_pos (by omega), if_pos (by omega)]
      omega
    · constructor
      · intro hx
        exfalso
        obtain ⟨⟨⟨⟨-, -⟩, g1⟩, g2⟩, g3⟩ := hx
        rw [if_neg (show ¬ (0 ≤ (b : Int) ∧ (b : Int) < R ∧ 0 ≤ (d : Int) ∧ (d : Int) < C) by omega)] at g3
        by_cases hc : a < R ∧ c < C
        · have := h.cell a c hc.1 hc.2
          rw [if_pos (by omega)] at g3
          omega
        · rw [if_neg (show ¬ (0 ≤ (a : Int) ∧ (a : Int) < R ∧ 0 ≤ (c : Int) ∧ (c : Int) < C) by omega)] at g1
          rw [if_neg (by omega)] at g1
          exact g1 rfl
      · rintro ⟨-, h5⟩; omega
  · constructor
    · intro hx
      exfalso
      obtain ⟨⟨⟨⟨k1, k2⟩, g1⟩, g2⟩, g3⟩ := hx
      have hn : ¬ (0 ≤ y1 ∧ 0 ≤ x1) := fun e => hh ⟨e, k1, k2⟩
      rw [if_neg (show ¬ (0 ≤ y1 ∧ y1 < R ∧ 0 ≤ x1 ∧ x1 < C) by omega)] at g1 g3
      split at g1 <;> split at g3 <;> split at g2 <;> first | omega | skip
      all_goals first | (exact g1 rfl) | skip
      all_goals (rename_i q1 q2 q3; omega)
    · rintro ⟨⟨⟨⟨k1, k2⟩, k3⟩, k4⟩, -⟩
      exact absurd ⟨⟨k1, k2⟩, k3, k4⟩ hh
end Go.Proofs.Ytcliiefedmiokaa
/-
  Lists of switches in memory.
-/
namespace Go.Proofs.Ytcliiefedmiokaa
open Go.RowKit

def cellsS (l : List Sw) : List Value := l.flatMap fun s => [.int .i64 s.y1, .int .i64 s.y2, .int .i64 s.x1, .int .i64 s.x2]
theorem cellsS_len (l : List Sw) : (cellsS l).length = l.length * 4 := by
  induction l with
  | nil => rfl
  | cons s l ih =>
    simp only [cellsS, List.flatMap_cons, List.length_append, List.length_cons, List.length_nil] at ih ⊢
    omega
theorem cellsS_snoc (l : List Sw) (s : Sw) : cellsS (l ++ [s]) = cellsS l ++ (swA s).toList := by
  simp [cellsS, swA]
theorem cellsS_at : ∀ (l : List Sw) (i : Nat) (h : i < l.length), (cellsS l)[i * 4]? = some (.int .i64 l[i].y1) ∧ (cellsS l)[i * 4 + 1]? = some (.int .i64 l[i].y2) ∧ (cellsS l)[i * 4 + 2]? = some (.int .i64 l[i].x1) ∧ (cellsS l)[i * 4 + 3]? = some (.int .i64 l[i].x2)
  | [], i, h => absurd h (Nat.not_lt_zero _)
  | s :: l, 0, _ => ⟨rfl, rfl, rfl, rfl⟩
  | s :: l, i + 1, h => by
    have := cellsS_at l i (by simpa using h)
    have e : cellsS (s :: l) = [.int .i64 s.y1, .int .i64 s.y2, .int .i64 s.x1, .int .i64 s.x2] ++ cellsS l := by simp [cellsS]
    rw [e]
    simp only [List.getElem_cons_succ]
    refine ⟨?_, ?_, ?_, ?_⟩
    · rw [List.getElem?_append_right (by simp; omega)]
      simpa [show (i + 1) * 4 - 4 = i * 4 by omega] using this.1
    · rw [List.getElem?_append_right (by simp; omega)]
      simpa [show (i + 1) * 4 + 1 - 4 = i * 4 + 1 by omega] using this.2.1
    · rw [List.getElem?_append_right (by simp; omega)]
      simpa [show (i + 1) * 4 + 2 - 4 = i * 4 + 2 by omega] using this.2.2.1
    · rw [List.getElem?_append_right (by simp; omega)]
      simpa [show (i + 1) * 4 + 3 - 4 = i * 4 + 3 by omega] using this.2.2.2
/-- The four cells of a switch. -/
def SwC (w : World) (g k : Nat) (s : Sw) : Prop := w.cell? ⟨g, k, none⟩ = some (.int .i64 s.y1) ∧ w.cell? ⟨g, k + 1, none⟩ = some (.int .i64 s.y2) ∧ w.cell? ⟨g, k + 2, none⟩ = some (.int .i64 s.x1) ∧ w.cell? ⟨g, k + 3, none⟩ = some (.int .i64 s.x2)
theorem swC_below {w w' : World} {g k : Nat} {s : Sw} (h : SwC w g k s) (hb : Below w.heap.size w w') (hg : g < w.heap.size) : SwC w' g k s :=
  ⟨below_cell hb hg h.1, below_cell hb hg h.2.1, below_cell hb hg h.2.2.1, below_cell hb hg h.2.2.2⟩
theorem swC_at {w : World} {g : Nat} {s : Sw} (h : SwAt w g s) : SwC w g 0 s := swAt_cells h
theorem wpList_loadSwC {ops : Array Oper} {rest : List Oper} {o : Oper} {a : Act} {Q : Exit → Act → World → Prop} {W : World} {g k : Nat} {s : Sw} (hb : SwC W g k s)
    (d : Tmp) (_hd : o.dst = some d) (hgd : o.guard = none) (x : Operand) (ho : o.op = .load 45 x) (hx : a.eval x = .pointer (some ⟨g, k, none⟩))
    (h : wpList Try.prog ops Q rest (a.put o.dst (swV s)) W) : wpList Try.prog ops Q (o :: rest) a W := by
  obtain ⟨h0, h1, h2, h3⟩ := hb
  refine wpList_plain hgd fun K hK => ?_
  have : (execOp a.eval o).run Try.prog W = .ok (.value (swV s)) W := by
    unfold execOp
    simp only [ho, hx]
    go_simp
    rfl
  unfold Oper.wp
  rw [this]
  exact hK _ _ h
theorem Try.zeroSwV (w : World) : (zeroValue 45).run Try.prog w = .ok (swV zeroSw) w := Try.zeroValue45 w
theorem wpList_allocSw {ops : Array Oper} {rest : List Oper} {o : Oper} {a : Act} {Q : Exit → Act → World → Prop} {W : World}
    (d : Tmp) (_hd : o.dst = some d) (hgd : o.guard = none) (ho : o.op = .alloc 45)
    (h : ∀ w', SwAt w' W.heap.size zeroSw → Below W.heap.size W w' → w'.heap.size = W.heap.size + 1 → wpList Try.prog ops Q rest (a.put o.dst (.pointer (some ⟨W.heap.size, 0, none⟩))) w') : wpList Try.prog ops Q (o :: rest) a W := by
  refine wpList_plain hgd fun K hK => ?_
  unfold Oper.wp execOp
  simp only [ho, Instr.alloc, Sem.run_bind, Try.zeroSwV, Result.andThen_ok]
  simp [newVar, newRow, Value.cells, swV]
  exact hK _ _ (h _ (swAt_new W zeroSw) ((Below.refl _ _).alloc (Nat.le_refl _) _) (by simp))
theorem wpList_storeSw {ops : Array Oper} {rest : List Oper} {o : Oper} {a : Act} {Q : Exit → Act → World → Prop} {W : World} {g : Nat} {s0 : Sw} (hb : SwAt W g s0) (s : Sw)
    (hgd : o.guard = none) (x y : Operand) (ho : o.op = .store 45 x y) (hx : a.eval x = .pointer (some ⟨g, 0, none⟩)) (hy : a.eval y = swV s)
    (h : ∀ w', SwAt w' g s → W.grownBy w' (some g) → w'.heap.size = W.heap.size → wpList Try.prog ops Q rest (a.put o.dst undef) w') : wpList Try.prog ops Q (o :: rest) a W := by
  refine wpList_plain hgd fun K hK => ?_
  unfold Oper.wp execOp
  simp only [ho, hx, hy, swV, Instr.storeAt, Instr.sureAddr, Sem.run_bind, Sem.run_pure, Result.andThen_ok, run_storeVar_row W g 45 45 (swA s0) (swA s) hb (by rw [Try.sizeSw]; rfl) rfl (swA_one s)]
  exact hK _ _ (h _ (setRow_heap W g _ _ _ (0, 0) hb) ⟨rfl, rfl, rfl, by simp, fun k hk hr => setRow_other W g k _ (fun e => hr (by rw [e]))⟩ (by simp))
/-- The slice v reads as the switches l. -/
def InSws (w : World) (v : Value) (l : List Sw) : Prop :=
  ∃ a c, v = .slice a l.length c ∧ l.length ≤ maxLen ∧ (l.length = 0 ∨ ∃ g o, a = some ⟨g, o, none⟩ ∧ g < w.heap.size ∧ ∀ i, (h : i < l.length) → SwC w g (o + i * 4) l[i])
theorem inSws_below {w w' : World} {v : Value} {l : List Sw} (h : InSws w v l) (hb : Below w.heap.size w w') : InSws w' v l := by
  obtain ⟨a, c, hv, hm, hp⟩ := h
  refine ⟨a, c, hv, hm, ?_⟩
  rcases hp with h0 | ⟨g, o, ha, hg, hc⟩
  · exact .inl h0
  · exact .inr ⟨g, o, ha, Nat.lt_of_lt_of_le hg hb.size, fun i hi => swC_below (hc i hi) hb hg⟩
theorem inSws_nil (w : World) : InSws w (.slice none 0 0) [] := ⟨none, 0, rfl, Nat.zero_le _, .inl rfl⟩
/-- The call owns the switches. -/
def OwnSws (w : World) (lo : Nat) (v : Value) (l : List Sw) : Prop := w.ownsRow lo 45 4 v l.length (cellsS l)
theorem ownSws_below {w w' : World} {lo : Nat} {v : Value} {l : List Sw} (h : OwnSws w lo v l) (hb : Below w.heap.size w w') : OwnSws w' lo v l := ownA_below h hb
theorem ownSws_base {w : World} {lo lo' : Nat} {v : Value} {l : List Sw} (h : OwnSws w lo v l) (hb : lo' ≤ lo) : OwnSws w lo' v l := ownA_base h hb
theorem ownSws_nil (w : World) (lo : Nat) : OwnSws w lo (.slice none 0 0) [] := World.ownsRow_nil _ _ _ _
theorem ownSws_cells {w : World} {lo g n c : Nat} {l : List Sw} (h : OwnSws w lo (.slice (some ⟨g, 0, none⟩) n c) l) (i : Nat) (hi : i < l.length) : SwC w g (i * 4) l[i] := by
  have hn : n = l.length := by
    rcases h.2 with ⟨e, _⟩ | ⟨g', cap, cur, e, _⟩
    · cases e
    · cases e; rfl
  subst hn
  obtain ⟨h0, h1, h2, h3⟩ := cellsS_at l i hi
  exact ⟨by rw [World.ownsRow.cellAt h _ (by omega)]; exact h0, by rw [World.ownsRow.cellAt h _ (by omega)]; exact h1, by rw [World.ownsRow.cellAt h _ (by omega)]; exact h2, by rw [World.ownsRow.cellAt h _ (by omega)]; exact h3⟩
theorem inSws_own {w : World} {lo : Nat} {v : Value} {l : List Sw} (h : OwnSws w lo v l) : InSws w v l := by
  have h' := h
  rcases h.2 with ⟨rfl, h0⟩ | ⟨g, cap, cur, rfl, hbg, hg, hc, hm, _⟩
  · exact ⟨none, 0, by rw [h0], by omega, .inl h0⟩
  · exact ⟨_, _, rfl, by omega, .inr ⟨g, 0, rfl, (Array.getElem?_eq_some_iff.1 hg).1, fun i hi => by rw [Nat.zero_add]; exact ownSws_cells h' i hi⟩⟩
theorem Try.infoSw : (Try.prog.info? 45).map (fun i => (i.zero, i.size, i.bytes)) = some (some (.agg #[.int .i64 0, .int .i64 0, .int .i64 0, .int .i64 0]), 4, 32) := by kernel_rfl
/-- The call answers switches of its own. -/
def SwsRes (l : List Sw) (w : World) (e : Ending) (w' : World) : Prop := ∃ v, e = .returned v ∧ OwnSws w' w.heap.size v l ∧ Below w.heap.size w w'
end Go.Proofs.Ytcliiefedmiokaa
