/-
  Texts of this claim, one behind the other: ShSl, Lists, Arr2, Arr3, Arr4, Impl, Put, Comp, Iv, SpecI, SpecT, SpecP, Paint, PieceS.
-/
import Derived.Shelf.Slices.Clone
import Derived.Ground.Names2Prog
import Derived.Test.YtpinkjgpdapgeaaProg
import Derived.Test.YtpinkjgpdapgeaaPackB
/-
  Contracts of the library, at this translation: laid by the shelf, in plain declarations.
-/
namespace Go.Proofs
open Go.Shelf Go.RowKit Go.Lib
def Try.laysNm215_ren : Go.Shelf.Ren := ⟨fun | 15 => 44 | n => n, fun | 22 => 22 | 3 => 3 | 4 => 4 | n => n, fun | n => n⟩
theorem Try.laysNm215 : Go.Proofs.Lays2.n15 Try.prog Try.laysNm215_ren := {
  mixed := by kernel_rfl
  f15 := Try.func44.trans (congrArg some (by kernel_rfl))
  t3 := Try.underlying3
  a3 := Try.isAgg3
  z3 := Try.sizeOf3
  v3 := Try.zeroValue3
  t4 := Try.underlying4
  a4 := Try.isAgg4
  z4 := Try.sizeOf4
  v4 := Try.zeroValue4
  t22 := Try.underlying22
  a22 := Try.isAgg22
  z22 := Try.sizeOf22
  v22 := Try.zeroValue22
  i3 := by kernel_rfl }
theorem Try.slices_Clone_int (b off n c : Nat) (zs : List Int) (w : World) (hz : n ≤ zs.length) (hbig : n * 8 ≤ 140737488355328) (hc : ∀ j, j < zs.length → w.cell? ⟨b, off + j, none⟩ = some (.int .i64 (zs.getD j 0))) :
    Calls Try.prog 44 #[.slice (some ⟨b, off, none⟩) n c] w fun e w' => ∃ v', e = .returned v' ∧ w'.ownsRow w.heap.size 3 1 v' n ((zs.take n).map (Value.int .i64)) ∧ v' ≠ .slice none 0 0 ∧ Below w.heap.size w w' := Any.slices_Clone_int Try.laysNm215 b off n c zs w hz hbig hc
theorem Try.slices_Clone_int_nil (n c : Nat) (w : World) :
    Calls Try.prog 44 #[.slice none n c] w fun e w' => e = .returned (.slice none 0 0) ∧ w' = w := Any.slices_Clone_int_nil Try.laysNm215 n c w
theorem Try.slices_Clone_int_zero (a : Addr) (c : Nat) (w : World) :
    Calls Try.prog 44 #[.slice (some a) 0 c] w fun e w' => ∃ v', e = .returned v' ∧ w'.ownsRow w.heap.size 3 1 v' 0 [] ∧ v' ≠ .slice none 0 0 ∧ Below w.heap.size w w' := Any.slices_Clone_int_zero Try.laysNm215 a c w
end Go.Proofs
/-
  The program's images: size, lists.
-/
namespace Go.Proofs.Ytpinkjgpdapgeaa
open Go.RowKit

set_option maxHeartbeats 400000 in
theorem size_any (G : Nat → Int) (n : Nat) (w : World) (hn : n ≤ 5) (h1 : ∀ j, j < n → G j ≠ -1) (h2 : n = 5 ∨ G n = -1) :
    Calls Try.prog 43 #[.agg (vec 5 G)] w fun e w' => e = .returned (.int .i64 n) ∧ Below w.heap.size w w' := by
  have N1 := hide h1; have N2 := hide h2
  clear h1 h2
  go_enter Try.func43, Try.ntmps43
  go_wp2_with (with_reducible refine wpList_boxVec 5 G 1 rfl rfl (.tmp 0) rfl rfl ?_; intro w1 h1 b1 s1)
  have H1 := hide h1; have B1 := hide b1
  clear h1 b1
  go_loop [3] (fun i => ∃ k : Nat, k ≤ n ∧ i = .int .i64 k) (fun i => n - (intOf i).toNat)
  case atStart => exact ⟨0, by omega, rfl⟩
  case round =>
    obtain ⟨k, hk, rfl⟩ := hrel
    by_cases hlt : k < n
    · have hx := blk_cell H1.out k (by omega)
      have hne := N1.out k hlt
      obtain ⟨y, hy⟩ : ∃ y, y = G k := ⟨_, rfl⟩
      rw [← hy] at hx hne
      have hb : (y != -1) = true := by simpa using hne
      have h5 : (k : Int) < 5 := by omega
      clear hy hne
      go_wp2
      go_round
      case rel => exact ⟨k + 1, by omega, by go_num⟩
      case measure => simp [intOf]; omega
    · obtain rfl : k = n := by omega
      by_cases h5 : k < 5
      · have hx := blk_cell H1.out k h5
        rw [N2.out.resolve_left (by omega)] at hx
        have h5' : (k : Int) < 5 := by omega
        go_wp2
        go_ret
        exact ⟨rfl, B1.out⟩
      · have h5' : ¬ (k : Int) < 5 := by omega
        go_wp2
        go_ret
        exact ⟨rfl, B1.out⟩

/-- A row of the padded image. -/
theorem imgF_row (R C : Nat) (f : Nat → Nat → Int) (y : Nat) : ∀ j, j < 5 → imgF R C f (y * 5 + j) = if y < R ∧ j < C then f y j else -1 := fun j hj => by
  rw [show y * 5 + j = 5 * y + j by omega, imgF_at R C f y j hj]

theorem ownMat_block {w w' : World} {lo hi g : Nat} {v : Value} {m : List (List Int)} (h : OwnMat w lo hi v m) (hg : w.grownBy w' (some g)) (hh : hi ≤ g) : OwnMat w' lo hi v m :=
  ownMat_within h (within_grown (lo := g) (hi := g + 1) hg fun k hk => by cases hk; exact ⟨Nat.le_refl _, Nat.lt_succ_self _⟩) (.inl hh)

set_option maxRecDepth 100000 in
set_option maxHeartbeats 1000000 in
theorem lists_any (R C : Nat) (f : Nat → Nat → Int) (w : World) (hI : Img R C f) :
    Calls Try.prog 41 #[.agg (vec 25 (imgF R C f))] w fun e w' => ∃ v, e = .returned v ∧ OwnMat w' w.heap.size w'.heap.size v (mkM R C f) ∧ Below w.heap.size w w' := by
  have hR := hI.r2; have hC := hI.c2; have hC1 := hI.c1
  have HI := hide hI
  clear hI
  go_enter Try.func41, Try.ntmps41
  go_wp2_with (first | (with_reducible refine wpList_boxVec 25 (imgF R C f) 1 rfl rfl (.tmp 0) rfl rfl ?_; intro w1 h1 b1 s1) | (with_reducible refine wpList_loadVec h1 7 rfl rfl _ rfl rfl Try.underlying46 Try.sizeImg ?_))
  have B1 := hide b1
  clear h1 b1 s1
  go_loopw [3, 8] (fun o i w' => ∃ (y : Nat) (v : Value), y ≤ 5 ∧ i = .int .i64 y ∧ v = o ∧ OwnMat w' w.heap.size w'.heap.size v (mkM (min y R) C f) ∧ Below w.heap.size w w') (fun _ i _ => 5 - (intOf i).toNat)
  case atStart => exact ⟨0, _, by omega, rfl, rfl, by rw [Nat.zero_min]; exact ownMat_nil _ _ _, B1.out⟩
  case round =>
    clear B1
    obtain ⟨y, v, hy, rfl, rfl, hown, hb⟩ := hrel
    have HO := hide hown; have HB := hide hb
    clear hown hb
    by_cases hlt : y < 5
    · have hyI : (y : Int) < 5 := by omega
      have HG := hide (imgF_row R C f y)
      have hsz := HB.out.size
      go_wp2_with (first | (with_reducible refine wpList_indexRow y 10 rfl rfl _ _ rfl rfl rfl Try.underlying46 Try.isAgg44 Try.sizeOf44 hlt (by omega) ?_) | (with_reducible refine wpList_allocVec 5 5 rfl rfl rfl Try.zeroRow ?_; intro w2 h2 b2 s2) | (with_reducible refine wpList_storeVec h2 rfl (.tmp 5) (.tmp 10) rfl rfl rfl Try.sizeRow ?_; intro w3 h3 g3 s3) | (with_reducible refine wpList_loadVec h3 11 rfl rfl _ rfl rfl Try.underlying44 Try.sizeRow ?_))
      have B3 := hide (HB.out.trans ((b2.mono hsz).trans (grown_below g3 (fun k hk => by cases hk; exact hsz) (by omega))))
      have O3 := hide (ownMat_block (ownMat_below HO.out b2) g3 (Nat.le_refl _))
      have H3 := hide h3
      have hs3 : w3.heap.size = wr.heap.size + 1 := by omega
      clear h2 b2 s2 h3 g3 s3
      by_cases hr : y < R
      · go_wp2_with fail
        refine (size_any _ C _ hC (fun j hj => ?_) ?_).mono ?_
        · rw [HG.out j (by omega), if_pos ⟨hr, hj⟩]
          rcases HI.out.cell y j hr hj with e | e <;> rw [e] <;> decide
        · by_cases e : C = 5
          · exact .inl e
          · right; rw [HG.out C (by omega), if_neg (by omega)]
        rintro e w4 ⟨rfl, b4⟩
        have H4 := hide (blk_below H3.out b4)
        have O4 := hide (ownMat_below O3.out b4)
        have B4 := hide (B3.out.trans (b4.mono (by omega)))
        have hs4 := b4.size
        clear b4
        have hpos : (0 : Int) < (C : Int) := by omega
        go_wp2_with (with_reducible refine wpList_sliceVec C 17 rfl rfl (.tmp 5) (.tmp 16) rfl rfl rfl Try.underlying44 Try.sizeOf3 hC ?_)
        refine (Try.slices_Clone_int wr.heap.size 0 C 5 (rowF C (f y)) _ (by rw [rowF_len]; exact Nat.le_refl _) (by omega) (fun j hj => ?_)).mono ?_
        · rw [rowF_len] at hj
          rw [Nat.zero_add, blk_cell H4.out j (by omega), HG.out j (by omega), if_pos ⟨hr, hj⟩, List.getD_eq_getElem?_getD, List.getElem?_eq_getElem (by rw [rowF_len]; exact hj), Option.getD_some, rowF_at]
        rintro e w5 ⟨u, rfl, hu, -, b5⟩
        have hu : w5.ownsRow w4.heap.size 3 1 u (rowF C (f y)).length (ints (rowF C (f y))) := by
          rw [rowF_len]
          have := hu
          rw [List.take_of_length_le (by rw [rowF_len]; exact Nat.le_refl _)] at this
          exact this
        obtain ⟨ua, uc, rfl⟩ := own_slice hu
        rw [rowF_len] at *
        have HU := hide hu
        have O5 := hide (ownMat_below O4.out b5)
        have B5 := hide (B4.out.trans (b5.mono (by omega)))
        have hs5 := b5.size
        clear hu b5
        have hmin : min y R = y := by omega
        rw [hmin] at O5
        clear hmin
        obtain ⟨vs, hv, hvh, hvr, hva⟩ := O5.out
        have hvl := mkM_len y C f
        rw [hvl] at hv
        have HV := hide hv; have HVH := hide hvh; have HVR := hide hvr; have HVA := hide hva
        clear hv hvh hvr hva hvl
        go_wp2_with (at_builtin; refine wpList_push HV.out (.slice ua C uc) (.slice none 0 0) rfl _ _ rfl Try.underlying28 Try.infoInts rfl (by decide) rfl rfl rfl (by omega) (by omega) ?_; intro v' w6 hown1 hb1 hg1)
        go_roundw
        case rel =>
          have hs6 := hb1.size
          have hp := ownMat_push (r := rowF C (f y)) (hi' := w6.heap.size) HVR.out HVA.out (by rw [mkM_len]; exact HV.out) (by rw [rowF_len]; exact own_base HU.out (by omega)) hsz (by omega) (by omega) hg1 (by rw [mkM_len]; exact hown1) (fun k e => (hown1.lt k e).2)
          rw [← mkM_succ, show y + 1 = min (y + 1) R by omega] at hp
          exact ⟨y + 1, _, by omega, by go_num, rfl, hp, B5.out.trans (hb1.mono (by omega))⟩
        case measure => simp [intOf]; omega
      · go_wp2_with fail
        refine (size_any _ 0 _ (by omega) (fun j hj => absurd hj (Nat.not_lt_zero _)) (.inr ?_)).mono ?_
        · rw [HG.out 0 (by omega), if_neg (by omega)]
        rintro e w4 ⟨rfl, b4⟩
        have O4 := hide (ownMat_below O3.out b4)
        have B4 := hide (B3.out.trans (b4.mono (by omega)))
        have hs4 := b4.size
        clear b4
        go_wp2
        go_roundw
        case rel =>
          have hp := ownMat_mono (hi' := w4.heap.size) O4.out (Nat.le_refl _) (by omega)
          rw [show min y R = min (y + 1) R by omega] at hp
          exact ⟨y + 1, _, by omega, by go_num, rfl, hp, B4.out⟩
        case measure => simp [intOf]; omega
    · have hmin : min y R = R := by omega
      rw [hmin] at HO
      clear hmin
      go_wp2
      go_ret
      exact ⟨_, rfl, HO.out, HB.out⟩
end Go.Proofs.Ytpinkjgpdapgeaa
/-
  The program's images: cell, count, transposed, inverted, distance.
-/
namespace Go.Proofs.Ytpinkjgpdapgeaa
open Go.RowKit

theorem row_below {w wr w2 w3 : World} (hb : Below w.heap.size w wr) (b2 : Below wr.heap.size wr w2) (g3 : w2.grownBy w3 (some wr.heap.size)) : Below w.heap.size w w3 :=
  hb.trans ((b2.mono hb.size).trans (grown_below g3 (fun k hk => by cases hk; exact hb.size) (Nat.le_trans hb.size b2.size)))
theorem row_blk {wr w2 w3 : World} {g n : Nat} {T : TypeId} {F : Nat → Int} (h : Blk wr g T n F) (b2 : Below wr.heap.size wr w2) (g3 : w2.grownBy w3 (some wr.heap.size)) : Blk w3 g T n F :=
  blk_grown (blk_below h b2) g3 (by have := blk_lt h; simp; omega)

/-- The first y columns of the exchanged image, and x cells of the next one. -/
def upT (F : Nat → Int) (y x : Nat) (i : Nat) : Int := if i % 5 < y ∨ (i % 5 = y ∧ i / 5 < x) then F (5 * (i % 5) + i / 5) else 0
theorem upT_zero (F : Nat → Int) : upT F 0 0 = fun _ => 0 := by funext i; rw [upT, if_neg (by omega)]
theorem upT_set (F : Nat → Int) (y x : Nat) (hy : y < 5) : (fun j => if j = 5 * x + y then F (5 * y + x) else upT F y x j) = upT F y (x + 1) := by
  funext j
  simp only [upT]
  by_cases e : j = 5 * x + y
  · subst e
    rw [if_pos rfl, if_pos (by omega), show (5 * x + y) % 5 = y by omega, show (5 * x + y) / 5 = x by omega]
  · rw [if_neg e]
    by_cases hl : j % 5 < y ∨ (j % 5 = y ∧ j / 5 < x)
    · rw [if_pos hl, if_pos (by omega)]
    · rw [if_neg hl, if_neg (by omega)]
theorem upT_next (F : Nat → Int) (y : Nat) : ∀ i, i < 25 → upT F y 5 i = upT F (y + 1) 0 i := fun i hi => by
  simp only [upT]
  by_cases hl : i % 5 < y + 1
  · rw [if_pos (by omega), if_pos (by omega)]
  · rw [if_neg (by omega), if_neg (by omega)]
theorem upT_all (F : Nat → Int) : ∀ i, i < 25 → upT F 5 0 i = F (5 * (i % 5) + i / 5) := fun i hi => by rw [upT, if_pos (by omega)]

set_option maxHeartbeats 1000000 in
theorem transposed_any (F : Nat → Int) (w : World) :
    Calls Try.prog 40 #[.agg (vec 25 F)] w fun e w' => e = .returned (.agg (vec 25 fun i => F (5 * (i % 5) + i / 5))) ∧ Below w.heap.size w w' := by
  go_enter Try.func40, Try.ntmps40
  go_wp2_with (first | (with_reducible refine wpList_boxVec 25 F 1 rfl rfl (.tmp 0) rfl rfl ?_; intro w1 h1 b1 s1) | (with_reducible refine wpList_allocVec 25 2 rfl rfl rfl Try.zeroImg ?_; intro wa ha ba sa) | (with_reducible refine wpList_allocVec 25 3 rfl rfl rfl Try.zeroImg ?_; intro wb hb bb sb) | (with_reducible refine wpList_loadVec (blk_below (blk_below h1 ba) bb) 8 rfl rfl _ rfl rfl Try.underlying46 Try.sizeImg ?_))
  have B1 := hide (b1.trans ((ba.mono (by omega)).trans (bb.mono (by omega))))
  have HR := hide (blk_below ha bb)
  have HP := hide hb
  have hsz : w.heap.size + 2 < wb.heap.size := by omega
  rw [s1] at HR sa
  rw [sa] at HP
  rw [show w.heap.size + 1 + 1 = w.heap.size + 2 by omega] at HP
  clear h1 b1 ha ba hb bb sb s1 sa
  go_loopw [9] (fun i w' => ∃ y : Nat, y ≤ 5 ∧ i = .int .i64 y ∧ Blk w' (w.heap.size + 2) 46 25 (upT F y 0) ∧ Blk w' (w.heap.size + 1) 46 25 (fun _ => 0) ∧ Below w.heap.size w w') (fun i _ => 5 - (intOf i).toNat)
  case atStart => exact ⟨0, by omega, rfl, by rw [upT_zero]; exact HP.out, HR.out, B1.out⟩
  case round =>
    clear B1 HP HR hsz
    obtain ⟨y, hy, rfl, hp, hr, hb⟩ := hrel
    have HP := hide hp; have HR := hide hr; have HB := hide hb
    clear hp hr hb
    by_cases hlt : y < 5
    · have hyI : (y : Int) < 5 := by omega
      go_wp2_with (first | (with_reducible refine wpList_indexRow y 12 rfl rfl _ _ rfl rfl rfl Try.underlying46 Try.isAgg44 Try.sizeOf44 hlt (by omega) ?_) | (with_reducible refine wpList_allocVec 5 5 rfl rfl rfl Try.zeroRow ?_; intro w2 h2 b2 s2) | (with_reducible refine wpList_storeVec h2 rfl (.tmp 5) (.tmp 12) rfl rfl rfl Try.sizeRow ?_; intro w3 h3 g3 s3) | (with_reducible refine wpList_loadVec h3 13 rfl rfl _ rfl rfl Try.underlying44 Try.sizeRow ?_))
      have B3 := hide (row_below HB.out b2 g3)
      have P3 := hide (row_blk HP.out b2 g3)
      have R3 := hide (row_blk HR.out b2 g3)
      clear h2 b2 s2 h3 g3 s3
      go_loopw [14] (fun i w' => ∃ x : Nat, x ≤ 5 ∧ i = .int .i64 x ∧ Blk w' (w.heap.size + 2) 46 25 (upT F y x) ∧ Blk w' (w.heap.size + 1) 46 25 (fun _ => 0) ∧ Below w.heap.size w w') (fun i _ => 5 - (intOf i).toNat)
      case atStart => exact ⟨0, by omega, rfl, P3.out, R3.out, B3.out⟩
      case round =>
        clear B3 P3 R3 HB HP HR
        obtain ⟨x, hx, rfl, hp, hr, hb⟩ := hrel
        have HP := hide hp; have HR := hide hr; have HB := hide hb
        clear hp hr hb
        by_cases hlx : x < 5
        · have hxI : (x : Int) < 5 := by omega
          have HS := hide (upT_set F y x hlt)
          have hcl := blk_cell HP.out (5 * x + y) (by omega)
          have hfr := blk_frozen HP.out (5 * x + y)
          have HA : Hid (0 + x * 5 + y * 1 = 5 * x + y) := hide (by omega)
          have HE : Hid (y * 5 + x = 5 * y + x) := hide (by omega)
          go_wp2_with (first | (with_reducible refine wpList_indexVec x 17 rfl rfl _ _ rfl rfl rfl Try.underlying44 Try.isAgg3 Try.sizeOf3 hlx ?_; rw [HE.out]) | (with_reducible refine wpList_indexAt x 21 rfl rfl _ _ rfl rfl rfl Try.underlying46 Try.sizeOf44 hlx ?_) | (with_reducible refine wpList_indexAt y 22 rfl rfl _ _ rfl rfl rfl Try.underlying44 Try.sizeOf3 hlt ?_; rw [HA.out]))
          go_roundw
          case rel => exact ⟨x + 1, by omega, by go_num, by have := blk_set HP.out (5 * x + y) (F (5 * y + x)); rw [HS.out] at this; exact this, blk_other HR.out _ _ (by simp), HB.out.setCell (by show w.heap.size ≤ w.heap.size + 2; omega) _⟩
          case measure => simp [intOf]; omega
        · obtain rfl : x = 5 := by omega
          go_wp2
          go_roundw
          case rel => exact ⟨y + 1, by omega, by go_num, blk_congr HP.out (upT_next F y), HR.out, HB.out⟩
          case measure => simp [intOf]; omega
    · obtain rfl : y = 5 := by omega
      have HP := hide (blk_congr HP.out (upT_all F))
      go_wp2_with (first | (with_reducible refine wpList_loadVec HP.out 25 rfl rfl _ rfl rfl Try.underlying46 Try.sizeImg ?_) | (with_reducible refine wpList_storeVec HR.out rfl (.tmp 2) (.tmp 25) rfl rfl rfl Try.sizeImg ?_; intro w4 h4 g4 s4))
      refine bodyPost_ret (results_vec rfl _ _ (w.heap.size + 1) 25 _ 46 _ _ rfl h4 Try.underlying46 Try.sizeImg) rfl ⟨rfl, ?_⟩
      exact HB.out.trans (grown_below g4 (fun k hk => by cases hk; exact Nat.le_succ _) HB.out.size)
end Go.Proofs.Ytpinkjgpdapgeaa
/-
  The program's images: inverted, distance, mirrored.
-/
namespace Go.Proofs.Ytpinkjgpdapgeaa
open Go.RowKit

def invN (v : Int) : Int := if v = -1 then -1 else 1 - v
def upI (F : Nat → Int) (k : Nat) (i : Nat) : Int := if i < k then invN (F i) else F i
theorem upI_zero (F : Nat → Int) : upI F 0 = F := by funext i; simp [upI]
theorem upI_set (F : Nat → Int) (k : Nat) (v : Int) (h : invN (F k) = v) : (fun j => if j = k then v else upI F k j) = upI F (k + 1) := by
  funext j
  simp only [upI]
  by_cases e : j = k
  · subst e; simp [h]
  · rw [if_neg e]
    by_cases hl : j < k
    · rw [if_pos hl, if_pos (by omega)]
    · rw [if_neg hl, if_neg (by omega)]
theorem upI_skip (F : Nat → Int) (k : Nat) (h : F k = -1) : upI F k = upI F (k + 1) := by
  funext j
  simp only [upI]
  by_cases hl : j < k
  · rw [if_pos hl, if_pos (by omega)]
  · by_cases e : j = k
    · subst e; simp [h, invN]
    · rw [if_neg hl, if_neg (by omega)]
theorem upI_all (F : Nat → Int) : ∀ i, i < 25 → upI F (5 * 5) i = invN (F i) := fun i hi => by rw [upI, if_pos (by omega)]

/-- What distance answers: the number, and whether the sizes are the same. -/
def DistRes (b : Bool) (n : Nat) (w : World) (e : Ending) (w' : World) : Prop := e = .returned (.tuple #[.int .i64 (if b then n else 0 : Nat), .bool b]) ∧ Below w.heap.size w w'
theorem dist_no {b : Bool} {n : Nat} {w : World} {w' : World} (hb : b = false) (h : Below w.heap.size w w') : DistRes b n w (.returned (.tuple #[.int .i64 0, .bool false])) w' := by subst hb; exact ⟨rfl, h⟩
/-- Numbers put over others, from place o on. -/
def overF (F : Nat → Int) (o : Nat) (r : List Int) (j : Nat) : Int := if o ≤ j ∧ j < o + r.length then r.getD (j - o) 0 else F j
theorem blk_setCells {g n : Nat} {T : TypeId} : ∀ (r : List Int) (o : Nat) (w : World) (F : Nat → Int), Blk w g T n F → Blk (w.setCells g o (ints r)) g T n (overF F o r) ∧ w.grownBy (w.setCells g o (ints r)) (some g) ∧ (w.setCells g o (ints r)).heap.size = w.heap.size
  | [], o, w, F, h => ⟨blk_congr h fun i _ => by simp only [overF, List.length_nil]; rw [if_neg (by omega)], ⟨rfl, rfl, rfl, Nat.le_refl _, fun _ _ _ => rfl⟩, rfl⟩
  | x :: r, o, w, F, h => by
    have h1 := blk_set h o x
    obtain ⟨h2, h3, h4⟩ := blk_setCells r (o + 1) _ _ h1
    refine ⟨blk_congr h2 fun i _ => ?_, ?_, ?_⟩
    · simp only [overF, List.length_cons]
      by_cases e : i = o
      · subst e; rw [if_neg (by omega), if_pos rfl, if_pos (by omega), Nat.sub_self]; rfl
      · by_cases hl : o + 1 ≤ i ∧ i < o + 1 + r.length
        · rw [if_pos hl, if_pos (by omega), show i - o = (i - (o + 1)) + 1 by omega]; rfl
        · rw [if_neg hl, if_neg e, if_neg (by omega)]
    · refine grown_trans (b := w.setCell ⟨g, o, none⟩ (.int .i64 x)) ⟨rfl, rfl, rfl, by simp [World.setCell], fun k _ hr => heap_setCell_other w _ k _ fun e => hr (by rw [e])⟩ h3
    · show ((w.setCell ⟨g, o, none⟩ (.int .i64 x)).setCells g (o + 1) (ints r)).heap.size = w.heap.size
      rw [h4]; simp [World.setCell]
theorem vec_ints (n : Nat) (F : Nat → Int) : vecL n F = ints (rowF n F) := by simp [vecL, ints, rowF]

/-- A row goes into the middle of a variable. -/
theorem wpList_storeMid {P : Program} {ops : Array Oper} {rest : List Oper} {o : Oper} {a : Act} {Q : Exit → Act → World → Prop} {W : World} {g b n s : Nat} {T T' : TypeId} {F G : Nat → Int} (hb : Blk W g T n F)
    (hgd : o.guard = none) (x y : Operand) (ho : o.op = .store T' x y) (hx : a.eval x = .pointer (some ⟨g, b, none⟩)) (hy : a.eval y = .agg (vec s G)) (hi : (P.info? T').map (·.size) = some s) (hn : b + s ≤ n)
    (h : ∀ w', Blk w' g T n (fun j => if b ≤ j ∧ j < b + s then G (j - b) else F j) → W.grownBy w' (some g) → w'.heap.size = W.heap.size → wpList P ops Q rest (a.put o.dst undef) w') : wpList P ops Q (o :: rest) a W := by
  refine wpList_store_mid hgd T' x y ho g b (vec s G) hx hy (fun j hj => ?_) (by rw [hi, vec_size]) (vec_one s G) ?_
  · rw [vec_size] at hj
    exact ⟨by rw [blk_cell hb (b + j) (by omega)]; rfl, blk_frozen hb _⟩
  · have e : (vec s G).toList = ints (rowF s G) := by rw [← vec_ints]; rfl
    obtain ⟨h1, h2, h3⟩ := blk_setCells (rowF s G) b W F hb
    rw [e]
    refine h _ (blk_congr h1 fun i _ => ?_) h2 h3
    simp only [overF, rowF_len]
    by_cases hl : b ≤ i ∧ i < b + s
    · rw [if_pos hl, if_pos hl, List.getD_eq_getElem?_getD, List.getElem?_eq_getElem (by rw [rowF_len]; omega), Option.getD_some, rowF_at]
    · rw [if_neg hl, if_neg hl]

def mirR (n : Nat) (G : Nat → Int) (j : Nat) : Int := if j < n then G (n - 1 - j) else G j
end Go.Proofs.Ytpinkjgpdapgeaa
/-
  The program's images: mirrored; the exported functions.
-/
namespace Go.Proofs.Ytpinkjgpdapgeaa
open Go.RowKit

def mirM (C : Nat) (f : Nat → Nat → Int) (y x : Nat) : Int := f y (C - 1 - x)
def upMir (R C : Nat) (f : Nat → Nat → Int) (y : Nat) (i : Nat) : Int := if i / 5 < y then imgF R C (mirM C f) i else imgF R C f i
theorem upMir_zero (R C : Nat) (f : Nat → Nat → Int) : upMir R C f 0 = imgF R C f := by funext i; simp [upMir]
theorem upMir_all (R C : Nat) (f : Nat → Nat → Int) : ∀ i, i < 25 → upMir R C f 5 i = imgF R C (mirM C f) i := fun i hi => by rw [upMir, if_pos (by omega)]
theorem upMir_step (R C : Nat) (f : Nat → Nat → Int) (y n : Nat) (hC : C ≤ 5) (hn : n = if y < R then C else 0) : ∀ i, i < 25 →
    (if 0 + y * 5 ≤ i ∧ i < 0 + y * 5 + 5 then mirR n (fun j => imgF R C f (y * 5 + j)) (i - (0 + y * 5)) else upMir R C f y i) = upMir R C f (y + 1) i := fun i hi => by
  by_cases hl : 0 + y * 5 ≤ i ∧ i < 0 + y * 5 + 5
  · rw [if_pos hl, upMir, if_pos (by omega)]
    simp only [mirR, imgF]
    have e1 : i / 5 = y := by omega
    have e2 : i - (0 + y * 5) = i % 5 := by omega
    rw [e1, e2]
    by_cases hy : y < R
    · rw [if_pos hy] at hn
      subst hn
      by_cases hx : i % 5 < n
      · rw [if_pos hx, if_pos (by omega), if_pos ⟨hy, hx⟩, mirM, show (y * 5 + (n - 1 - i % 5)) / 5 = y by omega, show (y * 5 + (n - 1 - i % 5)) % 5 = n - 1 - i % 5 by omega]
      · rw [if_neg hx, if_neg (by omega), if_neg (by omega)]
    · rw [if_neg hy] at hn
      subst hn
      rw [if_neg (by omega), if_neg (by omega), if_neg (by omega)]
  · rw [if_neg hl, upMir, upMir]
    by_cases h2 : i / 5 < y
    · rw [if_pos h2, if_pos (by omega)]
    · rw [if_neg h2, if_neg (by omega)]

end Go.Proofs.Ytpinkjgpdapgeaa
/-
  The program's exported functions on images.
-/
namespace Go.Proofs.Ytpinkjgpdapgeaa
open Go.RowKit

def trM (f : Nat → Nat → Int) (y x : Nat) : Int := f x y
def invM (f : Nat → Nat → Int) (y x : Nat) : Int := 1 - f y x
theorem img_tr {R C : Nat} {f : Nat → Nat → Int} (h : Img R C f) : Img C R (trM f) := ⟨h.c1, h.c2, h.r1, h.r2, fun y x hy hx => h.cell x y hx hy⟩
theorem img_mir {R C : Nat} {f : Nat → Nat → Int} (h : Img R C f) : Img R C (mirM C f) := ⟨h.r1, h.r2, h.c1, h.c2, fun y x hy hx => h.cell y (C - 1 - x) hy (by omega)⟩
theorem img_inv {R C : Nat} {f : Nat → Nat → Int} (h : Img R C f) : Img R C (invM f) := ⟨h.r1, h.r2, h.c1, h.c2, fun y x hy hx => by rcases h.cell y x hy hx with e | e <;> simp [invM, e]⟩
theorem transposed_img (R C : Nat) (f : Nat → Nat → Int) (w : World) (_hI : Img R C f) :
    Calls Try.prog 40 #[.agg (vec 25 (imgF R C f))] w fun e w' => e = .returned (.agg (vec 25 (imgF C R (trM f)))) ∧ Below w.heap.size w w' := by
  rw [← vec_congr (n := 25) (F := fun i => imgF R C f (5 * (i % 5) + i / 5)) (G := imgF C R (trM f)) fun i hi => ?_]
  · exact transposed_any _ _
  · simp only [imgF, trM, show (5 * (i % 5) + i / 5) / 5 = i % 5 by omega, show (5 * (i % 5) + i / 5) % 5 = i / 5 by omega]
    by_cases h : i % 5 < R ∧ i / 5 < C
    · rw [if_pos h, if_pos ⟨h.2, h.1⟩]
    · rw [if_neg h, if_neg fun e => h ⟨e.2, e.1⟩]
set_option maxHeartbeats 400000 in
theorem implTransposeOf_no (v : Value) (m : List (List Int)) (w : World) (hin : InMat w v m) (h : okB m = false) :
    Calls Try.prog 33 #[v] w (MatRes [] w) := by
  have HI := hide hin; have H := hide h
  clear hin h
  go_enter Try.func33, Try.ntmps33
  go_wp2_with fail
  refine (imageOf_no v m _ HI.out H.out).mono ?_
  rintro e w1 ⟨rfl, b1⟩
  have B1 := hide b1
  clear b1
  go_wp2_with (first | (with_reducible refine wpList_allocVec 25 3 rfl rfl rfl Try.zeroImg ?_; intro wa ha ba sa) | (with_reducible refine wpList_storeVec ha rfl (.tmp 3) (.tmp 8) rfl rfl rfl Try.sizeImg ?_; intro wb hb gb sb) | (with_reducible refine wpList_loadVec hb 12 rfl rfl _ rfl rfl Try.underlying46 Try.sizeImg ?_))
  go_ret
  exact matRes_nil (B1.out.trans ((ba.mono B1.out.size).trans (grown_below gb (fun k hk => by cases hk; exact B1.out.size) (by have := B1.out.size; omega))))
set_option maxHeartbeats 400000 in
theorem implTransposeOf_yes (v : Value) (R C : Nat) (f : Nat → Nat → Int) (w : World) (hin : InMat w v (mkM R C f)) (hI : Img R C f) :
    Calls Try.prog 33 #[v] w (MatRes (mkM C R (trM f)) w) := by
  have HI := hide hin; have H := hide hI
  clear hin hI
  go_enter Try.func33, Try.ntmps33
  go_wp2_with fail
  refine (imageOf_yes v R C f _ HI.out H.out).mono ?_
  rintro e w1 ⟨rfl, b1⟩
  have B1 := hide b1
  clear b1
  go_wp2_with (first | (with_reducible refine wpList_allocVec 25 3 rfl rfl rfl Try.zeroImg ?_; intro wa ha ba sa) | (with_reducible refine wpList_storeVec ha rfl (.tmp 3) (.tmp 8) rfl rfl rfl Try.sizeImg ?_; intro wb hb gb sb) | (with_reducible refine wpList_loadVec hb 12 rfl rfl _ rfl rfl Try.underlying46 Try.sizeImg ?_))
  have B2 := hide (B1.out.trans ((ba.mono B1.out.size).trans (grown_below gb (fun k hk => by cases hk; exact B1.out.size) (by have := B1.out.size; omega))))
  clear ha ba sa hb gb sb
  refine (transposed_img R C f _ H.out).mono ?_
  rintro e w3 ⟨rfl, b3⟩
  have B3 := hide (B2.out.trans (b3.mono B2.out.size))
  clear b3
  go_wp2_with fail
  refine (lists_any C R (trM f) _ (img_tr H.out)).mono ?_
  rintro e w4 ⟨v4, rfl, o4, b4⟩
  have O4 := hide (ownMat_mono o4 B3.out.size (Nat.le_refl _)); have B4 := hide (B3.out.trans (b4.mono B3.out.size))
  clear o4 b4
  go_wp2
  go_ret
  exact ⟨_, rfl, O4.out, B4.out⟩

/-- The cell of a valid image, or -1. -/
def atM (R C : Nat) (f : Nat → Nat → Int) (y x : Int) : Int := if 0 ≤ y ∧ y < R ∧ 0 ≤ x ∧ x < C then f y.toNat x.toNat else -1
theorem img_zero {R C : Nat} (hR : 1 ≤ R ∧ R ≤ 5) (hC : 1 ≤ C ∧ C ≤ 5) : Img R C zeroM := ⟨hR.1, hR.2, hC.1, hC.2, fun _ _ _ _ => .inl rfl⟩
theorem whiteImage_img (R C : Nat) (w : World) :
    Calls Try.prog 42 #[.int .i64 R, .int .i64 C] w fun e w' => e = .returned (.agg (vec 25 (imgF R C zeroM))) ∧ Below w.heap.size w w' := by
  rw [← vec_congr (n := 25) (F := whiteF R C) (G := imgF R C zeroM) fun i hi => ?_]
  · exact whiteImage_any _ _ _
  · simp only [whiteF, imgF, zeroM]
    by_cases h : i / 5 < R ∧ i % 5 < C
    · rw [if_pos h, if_neg (by omega)]
    · rw [if_neg h, if_pos (by omega)]
end Go.Proofs.Ytpinkjgpdapgeaa
/-
  PutCell and DistanceOf of the program.
-/
namespace Go.Proofs.Ytpinkjgpdapgeaa
open Go.RowKit

/-- The whole variable is read, behind a guard that says yes. -/
theorem wpList_loadVecG {P : Program} {ops : Array Oper} {rest : List Oper} {o : Oper} {a : Act} {Q : Exit → Act → World → Prop} {W : World} {g n m : Nat} {T T' e : TypeId} {F : Nat → Int} (hb : Blk W g T n F) (d : Tmp) (_hd : o.dst = some d)
    (hw : Region.wanted o (yielded ops a.tmps) = true) (x : Operand) (ho : o.op = .load T' x) (hx : a.eval x = .pointer (some ⟨g, 0, none⟩)) (hu : P.underlying T' = some (.array m e)) (hi : (P.info? T').map (·.size) = some n)
    (h : wpList P ops Q rest (a.put o.dst (.agg (vec n F))) W) : wpList P ops Q (o :: rest) a W :=
  BigFrame.wpList_want hw fun K hK => wp_load_row T' x ho g hx T (vec n F) (0, 0) _ hb hu rfl (by rw [hi, vec_size]) (hK _ _ h)

/-- The image with another cell. -/
def putM (f : Nat → Nat → Int) (a b : Nat) (c : Int) (y x : Nat) : Int := if y = a ∧ x = b then c else f y x
theorem img_put {R C : Nat} {f : Nat → Nat → Int} (h : Img R C f) (a b : Nat) {c : Int} (hc : c = 0 ∨ c = 1) : Img R C (putM f a b c) := ⟨h.r1, h.r2, h.c1, h.c2, fun y x hy hx => by
  unfold putM; split
  · exact hc
  · exact h.cell y x hy hx⟩
theorem imgF_put (R C : Nat) (f : Nat → Nat → Int) (a b : Nat) (c : Int) (ha : a < R) (hb : b < C) (hC : C ≤ 5) : ∀ i, i < 25 → (if i = 5 * a + b then c else imgF R C f i) = imgF R C (putM f a b c) i := fun i hi => by
  simp only [imgF, putM]
  by_cases e : i = 5 * a + b
  · subst e
    rw [if_pos rfl, if_pos (by omega), if_pos (by omega)]
  · rw [if_neg e]
    by_cases h : i / 5 < R ∧ i % 5 < C
    · rw [if_pos h, if_pos h, if_neg (by omega)]
    · rw [if_neg h, if_neg h]

end Go.Proofs.Ytpinkjgpdapgeaa
/-
  PURE: black cells that are joined by common sides: the pieces of a set of cells; a piece taken away; how many there are.
-/
namespace Go.Proofs.Ytpinkjgpdapgeaa
open Go

/-- Two cells with a common side. -/
def adjC (y x v u : Int) : Prop := (y = v ∧ (x = u + 1 ∨ u = x + 1)) ∨ (x = u ∧ (y = v + 1 ∨ v = y + 1))

theorem adjC_symm {y x v u : Int} (h : adjC y x v u) : adjC v u y x := by
  unfold adjC at *
  omega

/-- Joined within B. -/
inductive Conn (B : Int → Int → Prop) (y x : Int) : Int → Int → Prop
  | refl : B y x → Conn B y x y x
  | step {v u s r : Int} : Conn B y x v u → adjC v u s r → B s r → Conn B y x s r

theorem Conn.left {B : Int → Int → Prop} {y x v u : Int} (h : Conn B y x v u) : B y x := by
  induction h with
  | refl h => exact h
  | step _ _ _ ih => exact ih

theorem Conn.right {B : Int → Int → Prop} {y x v u : Int} (h : Conn B y x v u) : B v u := by
  cases h with
  | refl h => exact h
  | step _ _ h => exact h

theorem Conn.trans {B : Int → Int → Prop} {y x v u s r : Int} (h : Conn B y x v u) (h' : Conn B v u s r) : Conn B y x s r := by
  induction h' with
  | refl _ => exact h
  | step _ ha hb ih => exact .step ih ha hb

theorem Conn.symm {B : Int → Int → Prop} {y x v u : Int} (h : Conn B y x v u) : Conn B v u y x := by
  induction h with
  | refl h => exact .refl h
  | step h1 ha hb ih => exact Conn.trans (.step (.refl hb) (adjC_symm ha) h1.right) ih

theorem Conn.mono {B B' : Int → Int → Prop} (hB : ∀ y x, B y x → B' y x) {y x v u : Int} (h : Conn B y x v u) : Conn B' y x v u := by
  induction h with
  | refl h => exact .refl (hB _ _ h)
  | step _ ha hb ih => exact .step ih ha (hB _ _ hb)

theorem conn_congr {B B' : Int → Int → Prop} (hB : ∀ y x, B y x ↔ B' y x) {y x v u : Int} : Conn B y x v u ↔ Conn B' y x v u :=
  ⟨Conn.mono fun y x h => (hB y x).1 h, Conn.mono fun y x h => (hB y x).2 h⟩

/-- Without the cells that are joined with one of L (within B). -/
def lessP (B : Int → Int → Prop) (L : List (Int × Int)) (y x : Int) : Prop := B y x ∧ ∀ p ∈ L, ¬ Conn B p.1 p.2 y x

theorem conn_less {B : Int → Int → Prop} {L : List (Int × Int)} {y x v u : Int} (h : lessP B L v u) (hc : Conn B y x v u) : Conn (lessP B L) y x v u := by
  have key : ∀ {s r : Int}, Conn B y x s r → Conn B s r v u → Conn (lessP B L) y x s r := by
    intro s r h1
    induction h1 with
    | refl hb => exact fun h2 => .refl ⟨hb, fun p hp hpc => h.2 p hp (hpc.trans h2)⟩
    | step h3 ha hb ih =>
      intro h2
      exact .step (ih (Conn.trans (.step (.refl h3.right) ha hb) h2)) ha ⟨hb, fun p hp hpc => h.2 p hp (hpc.trans h2)⟩
  exact key hc (.refl hc.right)

/-- One more piece away. -/
theorem less_more {B : Int → Int → Prop} {L : List (Int × Int)} {v u : Int} (y x : Int) : lessP (lessP B L) [(v, u)] y x ↔ lessP B (L ++ [(v, u)]) y x := by
  constructor
  · rintro ⟨h1, h2⟩
    refine ⟨h1.1, fun p hp hpc => ?_⟩
    rcases List.mem_append.1 hp with hp | hp
    · exact h1.2 p hp hpc
    · rw [List.mem_singleton.1 hp] at hpc
      exact h2 (v, u) (List.mem_singleton.2 rfl) (conn_less h1 hpc)
  · rintro ⟨h1, h2⟩
    have h3 : lessP B L y x := ⟨h1, fun p hp => h2 p (List.mem_append_left _ hp)⟩
    refine ⟨h3, fun p hp hpc => ?_⟩
    rw [List.mem_singleton.1 hp] at hpc
    exact h2 (v, u) (List.mem_append_right _ (List.mem_singleton.2 rfl)) (hpc.mono fun _ _ h => h.1)

theorem less_nil {B : Int → Int → Prop} (y x : Int) : lessP B [] y x ↔ B y x := ⟨fun h => h.1, fun h => ⟨h, fun p hp => by cases hp⟩⟩

/-- Where there is no cell, nothing goes. -/
theorem less_none {B : Int → Int → Prop} {v u : Int} (h : ¬ B v u) (y x : Int) : lessP B [(v, u)] y x ↔ B y x :=
  ⟨fun h => h.1, fun hb => ⟨hb, fun p hp hpc => by rw [List.mem_singleton.1 hp] at hpc; exact h hpc.left⟩⟩

/-- B without one cell. -/
def butP (B : Int → Int → Prop) (v u : Int) (y x : Int) : Prop := B y x ∧ ¬ (y = v ∧ x = u)

/-- The four neighbours, in the order in which they are painted. -/
def four4 (y x : Int) : List (Int × Int) := [(y - 1, x), (y + 1, x), (y, x - 1), (y, x + 1)]

theorem mem_four4 {y x v u : Int} : (v, u) ∈ four4 y x ↔ adjC y x v u := by
  simp only [four4, List.mem_cons, Prod.mk.injEq, List.not_mem_nil, or_false, adjC]
  omega

theorem conn_split {B : Int → Int → Prop} {y x v u : Int} (h : Conn B y x v u) : (v = y ∧ u = x) ∨ ∃ p ∈ four4 y x, Conn (butP B y x) p.1 p.2 v u := by
  induction h with
  | refl h => exact .inl ⟨rfl, rfl⟩
  | @step v u s r h1 ha hb ih =>
    by_cases e : s = y ∧ r = x
    · exact .inl e
    · have hb' : butP B y x s r := ⟨hb, e⟩
      rcases ih with ⟨rfl, rfl⟩ | ⟨p, hp, hc⟩
      · exact .inr ⟨(s, r), mem_four4.2 ha, .refl hb'⟩
      · exact .inr ⟨p, hp, .step hc ha hb'⟩

theorem conn_of_split {B : Int → Int → Prop} {y x v u : Int} (hb : B y x) {p : Int × Int} (hp : p ∈ four4 y x) (hc : Conn (butP B y x) p.1 p.2 v u) : Conn B y x v u :=
  Conn.trans (.step (.refl hb) (mem_four4.1 hp) hc.left.1) (hc.mono fun _ _ h => h.1)

/-- ONE CELL PAINTED, THEN THE FOUR NEIGHBOURS' PIECES: its own piece. -/
theorem paint_four {B : Int → Int → Prop} {y x : Int} (hb : B y x) (v u : Int) : lessP (butP B y x) (four4 y x) v u ↔ lessP B [(y, x)] v u := by
  constructor
  · rintro ⟨h1, h2⟩
    refine ⟨h1.1, fun p hp hpc => ?_⟩
    rw [List.mem_singleton.1 hp] at hpc
    rcases conn_split hpc with e | ⟨q, hq, hc⟩
    · exact h1.2 e
    · exact h2 q hq hc
  · rintro ⟨h1, h2⟩
    have h3 : ¬ Conn B y x v u := h2 (y, x) (List.mem_singleton.2 rfl)
    refine ⟨⟨h1, fun e => ?_⟩, fun p hp hpc => h3 (conn_of_split hb hp hpc)⟩
    obtain ⟨rfl, rfl⟩ := e
    exact h3 (.refl hb)

theorem less_congr {B B' : Int → Int → Prop} {L : List (Int × Int)} (h : ∀ y x, B y x ↔ B' y x) (y x : Int) : lessP B L y x ↔ lessP B' L y x := by
  unfold lessP
  exact and_congr (h y x) (forall_congr' fun p => imp_congr Iff.rfl (not_congr (conn_congr h)))

/-- The cell, then the neighbours' pieces one after the other. -/
theorem paint_chain {B B0 B1 B2 B3 B4 : Int → Int → Prop} {y x : Int} (hb : B y x) (h0 : ∀ a b, B0 a b ↔ butP B y x a b) (h1 : ∀ a b, B1 a b ↔ lessP B0 [(y - 1, x)] a b) (h2 : ∀ a b, B2 a b ↔ lessP B1 [(y + 1, x)] a b)
    (h3 : ∀ a b, B3 a b ↔ lessP B2 [(y, x - 1)] a b) (h4 : ∀ a b, B4 a b ↔ lessP B3 [(y, x + 1)] a b) (a b : Int) : B4 a b ↔ lessP B [(y, x)] a b := by
  have e1 : ∀ a b, B1 a b ↔ lessP (butP B y x) [(y - 1, x)] a b := fun a b => (h1 a b).trans (less_congr h0 a b)
  have e2 : ∀ a b, B2 a b ↔ lessP (butP B y x) [(y - 1, x), (y + 1, x)] a b := fun a b => (h2 a b).trans ((less_congr e1 a b).trans (less_more a b))
  have e3 : ∀ a b, B3 a b ↔ lessP (butP B y x) [(y - 1, x), (y + 1, x), (y, x - 1)] a b := fun a b => (h3 a b).trans ((less_congr e2 a b).trans (less_more a b))
  have e4 : ∀ a b, B4 a b ↔ lessP (butP B y x) (four4 y x) a b := fun a b => (h4 a b).trans ((less_congr e3 a b).trans (less_more a b))
  exact (e4 a b).trans (paint_four hb a b)

/-- The black cells of an image. -/
def blackP (R C : Nat) (f : Nat → Nat → Int) (y x : Int) : Prop := 0 ≤ y ∧ y < R ∧ 0 ≤ x ∧ x < C ∧ f y.toNat x.toNat = 1

theorem black_at {R C : Nat} {f : Nat → Nat → Int} {y x : Nat} (hy : y < R) (hx : x < C) : blackP R C f y x ↔ f y x = 1 := by
  unfold blackP
  simp only [Int.toNat_natCast]
  exact ⟨fun h => h.2.2.2.2, fun h => ⟨by omega, by omega, by omega, by omega, h⟩⟩

/-- The first cell (row by row) of its piece. -/
def firstP (R C : Nat) (f : Nat → Nat → Int) (i : Nat) : Prop := blackP R C f (i / 5 : Nat) (i % 5 : Nat) ∧ ∀ j, j < i → ¬ Conn (blackP R C f) (j / 5 : Nat) (j % 5 : Nat) (i / 5 : Nat) (i % 5 : Nat)
noncomputable def headB (R C : Nat) (f : Nat → Nat → Int) (i : Nat) : Bool := @decide (firstP R C f i) (Classical.propDecidable _)

/-- How many pieces there are. -/
noncomputable def pieces (R C : Nat) (f : Nat → Nat → Int) : Nat := cnt (headB R C f) 25

theorem headB_iff {R C : Nat} {f : Nat → Nat → Int} {i : Nat} : headB R C f i = true ↔ firstP R C f i := by
  unfold headB
  exact @decide_eq_true_iff _ (Classical.propDecidable _)

/-- What is left once the pieces of all cells ahead of i are away. -/
def leftP (R C : Nat) (f : Nat → Nat → Int) (i : Nat) (y x : Int) : Prop := blackP R C f y x ∧ ∀ j, j < i → ¬ Conn (blackP R C f) (j / 5 : Nat) (j % 5 : Nat) y x

theorem left_first {R C : Nat} {f : Nat → Nat → Int} {i : Nat} : leftP R C f i (i / 5 : Nat) (i % 5 : Nat) ↔ firstP R C f i := Iff.rfl

theorem left_zero {R C : Nat} {f : Nat → Nat → Int} (y x : Int) : leftP R C f 0 y x ↔ blackP R C f y x := ⟨fun h => h.1, fun h => ⟨h, fun _ hj => absurd hj (Nat.not_lt_zero _)⟩⟩

theorem left_succ {R C : Nat} {f : Nat → Nat → Int} {i : Nat} (y x : Int) : leftP R C f (i + 1) y x ↔ lessP (leftP R C f i) [((i / 5 : Nat), (i % 5 : Nat))] y x := by
  have e : ∀ y x, leftP R C f i y x ↔ lessP (blackP R C f) ((List.range i).map fun j => (((j / 5 : Nat) : Int), ((j % 5 : Nat) : Int))) y x := fun y x => by
    unfold leftP lessP
    refine and_congr Iff.rfl ⟨fun h p hp => ?_, fun h j hj => h _ (List.mem_map.2 ⟨j, List.mem_range.2 hj, rfl⟩)⟩
    obtain ⟨j, hj, rfl⟩ := List.mem_map.1 hp
    exact h j (List.mem_range.1 hj)
  have e2 : lessP (leftP R C f i) [((i / 5 : Nat), (i % 5 : Nat))] y x ↔ lessP (lessP (blackP R C f) ((List.range i).map fun j => (((j / 5 : Nat) : Int), ((j % 5 : Nat) : Int)))) [((i / 5 : Nat), (i % 5 : Nat))] y x := less_congr e y x
  rw [e2, less_more]
  unfold leftP lessP
  refine and_congr Iff.rfl ⟨fun h p hp => ?_, fun h j hj => ?_⟩
  · rcases List.mem_append.1 hp with hp | hp
    · obtain ⟨j, hj, rfl⟩ := List.mem_map.1 hp
      exact h j (by have := List.mem_range.1 hj; omega)
    · rw [List.mem_singleton.1 hp]
      exact h i (by omega)
  · by_cases ej : j = i
    · subst ej
      exact h _ (List.mem_append_right _ (List.mem_singleton.2 rfl))
    · exact h _ (List.mem_append_left _ (List.mem_map.2 ⟨j, List.mem_range.2 (by omega), rfl⟩))

/-- Where the cell is not left, nothing goes. -/
theorem left_skip {R C : Nat} {f : Nat → Nat → Int} {i : Nat} (h : ¬ firstP R C f i) (y x : Int) : leftP R C f (i + 1) y x ↔ leftP R C f i y x := by
  rw [left_succ]
  exact less_none h y x

/-! How many black cells. -/
theorem cntB_mono {p q : Nat → Bool} : ∀ {k : Nat}, (∀ i, i < k → p i = true → q i = true) → cnt p k ≤ cnt q k
  | 0, _ => Nat.le_refl _
  | k + 1, h => by
    have ih := cntB_mono (p := p) (q := q) (k := k) fun i hi => h i (by omega)
    cases hp : p k with
    | false => rw [cnt_no hp, cnt]; omega
    | true => rw [cnt_yes hp, cnt_yes (h k (by omega) hp)]; omega

theorem cntB_less {p q : Nat → Bool} : ∀ {k : Nat}, (∀ i, i < k → p i = true → q i = true) → ∀ j, j < k → q j = true → p j = false → cnt p k < cnt q k
  | 0, _, j, hj, _, _ => absurd hj (Nat.not_lt_zero _)
  | k + 1, h, j, hj, hq, hp => by
    by_cases e : j = k
    · subst e
      rw [cnt_no hp, cnt_yes hq]
      exact Nat.lt_succ_of_le (cntB_mono fun i hi => h i (by omega))
    · have ih := cntB_less (p := p) (q := q) (k := k) (fun i hi => h i (by omega)) j (by omega) hq hp
      cases hpk : p k with
      | false => rw [cnt_no hpk, cnt]; omega
      | true => rw [cnt_yes hpk, cnt_yes (h k (by omega) hpk)]; omega

def blackB (R C : Nat) (f : Nat → Nat → Int) (i : Nat) : Bool := decide (i / 5 < R ∧ i % 5 < C ∧ f (i / 5) (i % 5) = 1)
def blacks (R C : Nat) (f : Nat → Nat → Int) : Nat := cnt (blackB R C f) 25
theorem blackB_iff {R C : Nat} {f : Nat → Nat → Int} {i : Nat} : blackB R C f i = true ↔ blackP R C f (i / 5 : Nat) (i % 5 : Nat) := by
  unfold blackB blackP
  rw [decide_eq_true_iff]
  simp only [Int.toNat_natCast]
  omega
theorem blacks_le {R C : Nat} {f g : Nat → Nat → Int} (h : ∀ y x, blackP R C f y x → blackP R C g y x) : blacks R C f ≤ blacks R C g :=
  cntB_mono fun _ _ hp => blackB_iff.2 (h _ _ (blackB_iff.1 hp))
theorem black_put {R C : Nat} {f : Nat → Nat → Int} {y x : Nat} (a b : Int) : blackP R C (putM f y x 0) a b ↔ butP (blackP R C f) y x a b := by
  unfold blackP butP putM
  constructor
  · rintro ⟨h1, h2, h3, h4, h5⟩
    split at h5
    · exact absurd h5 (by decide)
    · rename_i hne
      exact ⟨⟨h1, h2, h3, h4, h5⟩, fun e => hne ⟨by omega, by omega⟩⟩
  · rintro ⟨⟨h1, h2, h3, h4, h5⟩, hne⟩
    refine ⟨h1, h2, h3, h4, ?_⟩
    rw [if_neg fun e => hne ⟨by omega, by omega⟩]
    exact h5
theorem blacks_put {R C : Nat} {f : Nat → Nat → Int} (hI : Img R C f) {y x : Nat} (hy : y < R) (hx : x < C) (h : f y x = 1) : blacks R C (putM f y x 0) < blacks R C f := by
  have hR := hI.r2; have hC := hI.c2
  have e1 : (5 * y + x) / 5 = y := by omega
  have e2 : (5 * y + x) % 5 = x := by omega
  refine cntB_less (fun i _ hp => blackB_iff.2 ((black_put _ _).1 (blackB_iff.1 hp)).1) (5 * y + x) (by omega) ?_ ?_
  · rw [blackB_iff, e1, e2]
    exact (black_at hy hx).2 h
  · rw [Bool.eq_false_iff]
    intro hp
    rw [blackB_iff, e1, e2] at hp
    exact ((black_put _ _).1 hp).2 ⟨rfl, rfl⟩
end Go.Proofs.Ytpinkjgpdapgeaa
/-
  PURE: the run of black cells of a row, where there is at most one.
-/
namespace Go.Proofs.Ytpinkjgpdapgeaa
open Go

/-- The black cells of r are those from a on, c of them; every cell is 0 or 1. -/
structure IvAt (r : List Int) (a c : Nat) : Prop where
  cell : ∀ i, i < r.length → r.getD i 0 = 0 ∨ r.getD i 0 = 1
  run : ∀ i, i < r.length → (r.getD i 0 = 1 ↔ a ≤ i ∧ i < a + c)
  fits : a + c ≤ r.length
  none : c = 0 → a = 0

theorem ivAt_unique {r : List Int} {a c a' c' : Nat} (h : IvAt r a c) (h' : IvAt r a' c') : a = a' ∧ c = c' := by
  have f := h.fits; have f' := h'.fits
  have key : ∀ i, i < r.length → ((a ≤ i ∧ i < a + c) ↔ (a' ≤ i ∧ i < a' + c')) := fun i hi => (h.run i hi).symm.trans (h'.run i hi)
  have n := h.none; have n' := h'.none
  by_cases hc : c = 0
  · by_cases hc' : c' = 0
    · exact ⟨by rw [n hc, n' hc'], by rw [hc, hc']⟩
    · have := (key a' (by omega)).2 ⟨by omega, by omega⟩
      omega
  · have k1 := (key a (by omega)).1 ⟨by omega, by omega⟩
    have hc' : c' ≠ 0 := by omega
    have k2 := (key a' (by omega)).2 ⟨by omega, by omega⟩
    have ea : a = a' := by omega
    subst ea
    have k3 := (key (a + c - 1) (by omega)).1 ⟨by omega, by omega⟩
    have k4 := (key (a + c' - 1) (by omega)).2 ⟨by omega, by omega⟩
    exact ⟨rfl, by omega⟩

/-- Behind the first k cells: c black ones, from a on. -/
structure IvSt (r : List Int) (k : Nat) (first : Int) (c : Nat) : Prop where
  cell : ∀ i, i < k → r.getD i 0 = 0 ∨ r.getD i 0 = 1
  run : ∀ i, i < k → (r.getD i 0 = 1 ↔ first ≤ i ∧ (i : Int) < first + c)
  zero : c = 0 → first = -1
  pos : c ≠ 0 → 0 ≤ first ∧ first + c ≤ k

theorem ivSt_zero (r : List Int) : IvSt r 0 (-1) 0 := ⟨fun _ hi => absurd hi (Nat.not_lt_zero _), fun _ hi => absurd hi (Nat.not_lt_zero _), fun _ => rfl, fun h => absurd rfl h⟩

theorem ivSt_white {r : List Int} {k : Nat} {first : Int} {c : Nat} (h : IvSt r k first c) (hx : r.getD k 0 = 0) : IvSt r (k + 1) first c := by
  have p := h.pos; have z := h.zero
  refine ⟨fun i hi => ?_, fun i hi => ?_, z, fun hc => ⟨(p hc).1, by have := (p hc).2; omega⟩⟩
  · by_cases e : i = k
    · subst e; exact .inl hx
    · exact h.cell i (by omega)
  · by_cases e : i = k
    · subst e
      rw [hx]
      constructor
      · intro e; cases e
      · rintro ⟨h1, h2⟩
        by_cases hc : c = 0
        · omega
        · have := p hc; omega
    · exact h.run i (by omega)

theorem ivSt_first {r : List Int} {k : Nat} {first : Int} (h : IvSt r k first 0) (hx : r.getD k 0 = 1) : IvSt r (k + 1) k 1 := by
  have z := h.zero rfl
  refine ⟨fun i hi => ?_, fun i hi => ?_, fun e => (by cases e), fun _ => ⟨by omega, by omega⟩⟩
  · by_cases e : i = k
    · subst e; exact .inr hx
    · exact h.cell i (by omega)
  · by_cases e : i = k
    · subst e
      exact ⟨fun _ => by omega, fun _ => hx⟩
    · constructor
      · intro e1
        have := (h.run i (by omega)).1 e1
        omega
      · intro e1; omega

theorem ivSt_next {r : List Int} {k : Nat} {first : Int} {c : Nat} (h : IvSt r k first c) (hc : c ≠ 0) (hx : r.getD k 0 = 1) (hk : (k : Int) = first + c) : IvSt r (k + 1) first (c + 1) := by
  have p := h.pos hc
  refine ⟨fun i hi => ?_, fun i hi => ?_, fun e => (by cases e), fun _ => ⟨p.1, by omega⟩⟩
  · by_cases e : i = k
    · subst e; exact .inr hx
    · exact h.cell i (by omega)
  · by_cases e : i = k
    · subst e
      exact ⟨fun _ => by omega, fun _ => hx⟩
    · constructor
      · intro e1
        have := (h.run i (by omega)).1 e1
        omega
      · intro e1
        exact (h.run i (by omega)).2 ⟨e1.1, by omega⟩

/-- A gap. -/
theorem ivSt_gap {r : List Int} {k : Nat} {first : Int} {c : Nat} (h : IvSt r k first c) (hk : k < r.length) (hc : c ≠ 0) (hx : r.getD k 0 = 1) (hne : (k : Int) ≠ first + c) (a n : Nat) : ¬ IvAt r a n := by
  intro H
  have p := h.pos hc
  obtain ⟨b, rfl⟩ : ∃ b : Nat, first = b := ⟨first.toNat, by omega⟩
  have e1 := (H.run k hk).1 hx
  have e2 := (H.run b (by omega)).1 ((h.run b (by omega)).2 ⟨by omega, by omega⟩)
  have e3 := (H.run (b + c) (by omega)).2 ⟨by omega, by omega⟩
  have e4 := (h.run (b + c) (by omega)).1 e3
  omega

theorem ivSt_bad {r : List Int} {k : Nat} (hk : k < r.length) (h0 : r.getD k 0 ≠ 0) (h1 : r.getD k 0 ≠ 1) (a n : Nat) : ¬ IvAt r a n := fun H => (H.cell k hk).elim h0 h1

theorem ivSt_end {r : List Int} {first : Int} {c : Nat} (h : IvSt r r.length first c) : IvAt r (max first 0).toNat c := by
  by_cases hc : c = 0
  · subst hc
    have z := h.zero rfl
    subst z
    refine ⟨h.cell, fun i hi => ?_, ?_, fun _ => rfl⟩
    · constructor
      · intro e
        have := (h.run i hi).1 e
        omega
      · intro e
        have : (max (-1 : Int) 0).toNat = 0 := rfl
        omega
    · show (max (-1 : Int) 0).toNat + 0 ≤ _
      have : (max (-1 : Int) 0).toNat = 0 := rfl
      omega
  · have p := h.pos hc
    have e : max first 0 = first := by omega
    rw [e]
    obtain ⟨b, rfl⟩ : ∃ b : Nat, first = b := ⟨first.toNat, by omega⟩
    rw [Int.toNat_natCast]
    refine ⟨h.cell, fun i hi => ?_, by omega, fun e => absurd e hc⟩
    exact (h.run i hi).trans ⟨fun e => ⟨by omega, by omega⟩, fun e => ⟨by omega, by omega⟩⟩

/-- What IntervalOf returns. -/
noncomputable def ivR (r : List Int) : Int × Int × Bool :=
  match Classical.propDecidable (∃ p : Nat × Nat, IvAt r p.1 p.2) with
  | .isTrue h => (((Classical.choose h).1 : Nat), ((Classical.choose h).2 : Nat), true)
  | .isFalse _ => (0, 0, false)

theorem ivR_yes {r : List Int} {a c : Nat} (h : IvAt r a c) : ivR r = ((a : Int), (c : Int), true) := by
  unfold ivR
  split
  · rename_i hp _
    obtain ⟨e1, e2⟩ := ivAt_unique (Classical.choose_spec hp) h
    rw [e1, e2]
  · rename_i hp _
    exact absurd ⟨(a, c), h⟩ hp

theorem ivR_no {r : List Int} (h : ∀ a c, ¬ IvAt r a c) : ivR r = (0, 0, false) := by
  unfold ivR
  split
  · rename_i hp _
    exact absurd (Classical.choose_spec hp) (h _ _)
  · rfl

theorem ivR_end {r : List Int} {first : Int} {c : Nat} (h : IvSt r r.length first c) : ivR r = (max first 0, (c : Int), true) := by
  rw [ivR_yes (ivSt_end h)]
  congr 1
  omega

/-- Images whose rows have one run at most. -/
noncomputable def hconvB (m : List (List Int)) : Bool := okB m && m.all fun r => (ivR r).2.2
def trB (m : List (List Int)) : List (List Int) := if okB m = true then mkM (widthM m) m.length fun y x => (m.getD x []).getD y 0 else []
theorem trB_mk {R C : Nat} {f : Nat → Nat → Int} (hI : Img R C f) : trB (mkM R C f) = mkM C R (trM f) := by
  unfold trB
  rw [if_pos (img_ok hI), mkM_len, width_mkM hI.r1]
  exact mkM_congr fun y x hy hx => by simp [trM, mkM, rowF, hy, hx]
theorem hconvB_nil : hconvB [] = false := by simp [hconvB, okB]
noncomputable def convB (m : List (List Int)) : Bool := hconvB m && hconvB (trB m)
end Go.Proofs.Ytpinkjgpdapgeaa
/-
  The model's functions on images.
-/
namespace Go.Proofs.Ytpinkjgpdapgeaa
open Go.RowKit

def inM (m : List (List Int)) (y x : Int) : Bool := okB m && decide (0 ≤ y ∧ y < m.length) && decide (0 ≤ x ∧ x < widthM m)
theorem cnt_row {R C : Nat} {f : Nat → Nat → Int} (p : Nat → Bool) (hp : ∀ i, imgF R C f i = -1 → p i = false) (y : Nat) (hC : C ≤ 5) : cnt p (5 * (y + 1)) = cnt p (5 * y + C) :=
  cnt_skip (by omega) fun i h1 h2 => hp i (by rw [imgF, if_neg (by omega)])
theorem cnt_end {R C : Nat} {f : Nat → Nat → Int} (p : Nat → Bool) (hp : ∀ i, imgF R C f i = -1 → p i = false) (hR : R ≤ 5) : cnt p 25 = cnt p (5 * R) :=
  cnt_skip (by omega) fun i h1 h2 => hp i (by rw [imgF, if_neg (by omega)])
end Go.Proofs.Ytpinkjgpdapgeaa
/-
  TransposeOf, MirrorOf, InvertOf of the model.
-/
namespace Go.Proofs.Ytpinkjgpdapgeaa
open Go.RowKit
set_option linter.unusedVariables false

def upTr (C : Nat) (f : Nat → Nat → Int) (y x a b : Nat) : Int := if b < y ∨ (b = y ∧ a < x) then f b a else 0
theorem upTr_zero (R C : Nat) (f : Nat → Nat → Int) : mkM C R zeroM = mkM C R (upTr C f 0 0) := mkM_congr fun a b ha hb => by rw [upTr, if_neg (by omega)]; rfl
theorem upTr_set (R C : Nat) (f : Nat → Nat → Int) (y x : Nat) (hy : y < R) (hx : x < C) (z : Int) (hz : f y x = z) :
    mkM C R (fun a b => if a = x ∧ b = y then z else upTr C f y x a b) = mkM C R (upTr C f y (x + 1)) := mkM_congr fun a b ha hb => by
  simp only [upTr]
  by_cases e : a = x ∧ b = y
  · obtain ⟨rfl, rfl⟩ := e
    rw [if_pos ⟨rfl, rfl⟩, if_pos (by omega), ← hz]
  · rw [if_neg e]
    by_cases hl : b < y ∨ (b = y ∧ a < x)
    · rw [if_pos hl, if_pos (by omega)]
    · rw [if_neg hl, if_neg (by omega)]
theorem upTr_next (R C : Nat) (f : Nat → Nat → Int) (y : Nat) (hy : y < R) : mkM C R (upTr C f y C) = mkM C R (upTr C f (y + 1) 0) := mkM_congr fun a b ha hb => by
  simp only [upTr]
  by_cases hl : b < y + 1
  · rw [if_pos (by omega), if_pos (by omega)]
  · rw [if_neg (by omega), if_neg (by omega)]
theorem upTr_all (R C : Nat) (f : Nat → Nat → Int) : mkM C R (upTr C f R 0) = mkM C R (trM f) := mkM_congr fun a b ha hb => by
  rw [upTr, if_pos (by omega)]; rfl
set_option maxHeartbeats 400000 in
theorem specTransposeOf_no (v : Value) (m : List (List Int)) (w : World) (hin : InMat w v m) (h : okB m = false) :
    Calls Try.prog 32 #[v] w (MatRes [] w) := by
  have HI := hide hin; have H := hide h
  clear hin h
  go_enter Try.func32, Try.ntmps32
  go_wp2_with (with_reducible refine (specImageOk_any v m _ HI.out).mono ?_; rw [H.out]; rintro e w' ⟨rfl, rfl⟩)
  go_ret
  exact matRes_nil (Below.refl _ _)
set_option maxHeartbeats 1000000 in
theorem specTransposeOf_yes (v : Value) (R C : Nat) (f : Nat → Nat → Int) (w : World) (hin : InMat w v (mkM R C f)) (hI : Img R C f) :
    Calls Try.prog 32 #[v] w (MatRes (mkM C R (trM f)) w) := by
  have HI := hide hin; have H := hide (img_ok hI); have HX := hide hI
  have hR1 := hI.r1; have hC1 := hI.c1; have hR := hI.r2; have hC := hI.c2
  obtain ⟨g, o, c, rfl, hg, hcell⟩ := inMat_img hin (by omega) (by omega)
  have HC := hide hcell
  obtain ⟨g0, o0, c0, hx0, -⟩ := hcell 0 (by omega)
  rw [Nat.add_zero] at hx0
  clear hin hI hcell
  go_enter Try.func32, Try.ntmps32
  go_wp2_with (first | (with_reducible refine (specImageOk_any _ _ _ HI.out).mono ?_; rw [H.out]; rintro e w' ⟨rfl, rfl⟩))
  refine (l02Empty_any C R _ (by omega) (by omega)).mono ?_
  rintro e w3 ⟨v3, rfl, o3, b3⟩
  rw [upTr_zero R C f] at o3
  obtain ⟨gv, cv, rfl⟩ := ownMat_some o3 (by rw [mkM_len]; omega)
  obtain ⟨hi, hhi⟩ : ∃ hi, hi = w3.heap.size := ⟨_, rfl⟩
  rw [← hhi] at o3
  rw [mkM_len] at *
  have B3 := hide b3; have O3 := hide o3
  have hge : hi ≤ w3.heap.size := by omega
  clear b3 o3 hhi hx0
  go_wp2
  go_loopw [20] (fun i w' => ∃ y : Nat, y ≤ R ∧ i = .int .i64 y ∧ hi ≤ w'.heap.size ∧ OwnMat w' w.heap.size hi (.slice (some ⟨gv, 0, none⟩) C cv) (mkM C R (upTr C f y 0)) ∧ Below w.heap.size w w') (fun i _ => R - (intOf i).toNat)
  case atStart => exact ⟨0, by omega, rfl, hge, O3.out, B3.out⟩

  case round =>
    clear B3 O3 hge
    obtain ⟨y, hy, rfl, hhi, hown, hb⟩ := hrel
    have HO := hide hown; have HB := hide hb
    clear hown hb
    by_cases hlt : y < R
    · have hyI : (y : Int) < R := by omega
      obtain ⟨g', o', c', hx, hg', hcc⟩ := HC.out y hlt
      have hx := below_cell HB.out hg hx
      have HCC := hide hcc
      clear hcc
      go_wp2
      go_loopw [27] (fun i w' => ∃ x : Nat, x ≤ C ∧ i = .int .i64 x ∧ hi ≤ w'.heap.size ∧ OwnMat w' w.heap.size hi (.slice (some ⟨gv, 0, none⟩) C cv) (mkM C R (upTr C f y x)) ∧ Below w.heap.size w w') (fun i _ => C - (intOf i).toNat)
      case atStart => exact ⟨0, by omega, rfl, hhi, HO.out, HB.out⟩
      case round =>
        clear HO HB hx hhi
        obtain ⟨x, hxx, rfl, hhi, hown, hb⟩ := hrel
        have HO := hide hown; have HB := hide hb
        clear hown hb
        by_cases hlx : x < C
        · have hxI : (x : Int) < C := by omega
          have hz := below_cell HB.out hg' (HCC.out x hlx)
          obtain ⟨gr, cr, hrow, hcl, hfr, hlo, hgh, hset⟩ := ownMat_cell HO.out (x) (y) (by omega) (by omega)
          have HSET := hide hset
          clear hset
          skip
          have HS := hide (upTr_set R C f y x hlt hlx _ rfl)
          go_wp2
          go_roundw
          case rel => exact ⟨x + 1, by omega, by go_num, by simpa [World.setCell] using hhi, by have := HSET.out (f y x); rw [HS.out] at this; exact this, HB.out.setCell hlo _⟩
          case measure => simp [intOf]; omega
        · obtain rfl : x = C := by omega
          have HS := hide (upTr_next R x f y hlt)
          rw [HS.out] at HO
          clear HS
          go_wp2
          go_roundw
          case rel => exact ⟨y + 1, by omega, by go_num, hhi, HO.out, HB.out⟩
          case measure => simp [intOf]; omega
    · obtain rfl : y = R := by omega
      have HS := hide (upTr_all y C f)
      rw [HS.out] at HO
      clear HS
      go_wp2
      go_ret
      exact ⟨_, rfl, ownMat_mono HO.out (Nat.le_refl _) hhi, HB.out⟩

def upMi (C : Nat) (f : Nat → Nat → Int) (y x a b : Nat) : Int := if a < y ∨ (a = y ∧ C - 1 - b < x) then f a (C - 1 - b) else 0
theorem upMi_zero (R C : Nat) (f : Nat → Nat → Int) : mkM R C zeroM = mkM R C (upMi C f 0 0) := mkM_congr fun a b ha hb => by rw [upMi, if_neg (by omega)]; rfl
theorem upMi_set (R C : Nat) (f : Nat → Nat → Int) (y x : Nat) (hy : y < R) (hx : x < C) (z : Int) (hz : f y x = z) :
    mkM R C (fun a b => if a = y ∧ b = C - 1 - x then z else upMi C f y x a b) = mkM R C (upMi C f y (x + 1)) := mkM_congr fun a b ha hb => by
  simp only [upMi]
  by_cases e : a = y ∧ b = C - 1 - x
  · obtain ⟨rfl, rfl⟩ := e
    rw [if_pos ⟨rfl, rfl⟩, if_pos (by omega), ← hz]; rw [show C - 1 - (C - 1 - x) = x by omega]
  · rw [if_neg e]
    by_cases hl : a < y ∨ (a = y ∧ C - 1 - b < x)
    · rw [if_pos hl, if_pos (by omega)]
    · rw [if_neg hl, if_neg (by omega)]
theorem upMi_next (R C : Nat) (f : Nat → Nat → Int) (y : Nat) (hy : y < R) : mkM R C (upMi C f y C) = mkM R C (upMi C f (y + 1) 0) := mkM_congr fun a b ha hb => by
  simp only [upMi]
  by_cases hl : a < y + 1
  · rw [if_pos (by omega), if_pos (by omega)]
  · rw [if_neg (by omega), if_neg (by omega)]
theorem upMi_all (R C : Nat) (f : Nat → Nat → Int) : mkM R C (upMi C f R 0) = mkM R C (mirM C f) := mkM_congr fun a b ha hb => by
  rw [upMi, if_pos (by omega)]; rfl
def upIn (C : Nat) (f : Nat → Nat → Int) (y x a b : Nat) : Int := if a < y ∨ (a = y ∧ b < x) then 1 - f a b else 0
theorem upIn_zero (R C : Nat) (f : Nat → Nat → Int) : mkM R C zeroM = mkM R C (upIn C f 0 0) := mkM_congr fun a b ha hb => by rw [upIn, if_neg (by omega)]; rfl
theorem upIn_set (R C : Nat) (f : Nat → Nat → Int) (y x : Nat) (hy : y < R) (hx : x < C) (z : Int) (hz : 1 - f y x = z) :
    mkM R C (fun a b => if a = y ∧ b = x then z else upIn C f y x a b) = mkM R C (upIn C f y (x + 1)) := mkM_congr fun a b ha hb => by
  simp only [upIn]
  by_cases e : a = y ∧ b = x
  · obtain ⟨rfl, rfl⟩ := e
    rw [if_pos ⟨rfl, rfl⟩, if_pos (by omega), ← hz]
  · rw [if_neg e]
    by_cases hl : a < y ∨ (a = y ∧ b < x)
    · rw [if_pos hl, if_pos (by omega)]
    · rw [if_neg hl, if_neg (by omega)]
theorem upIn_next (R C : Nat) (f : Nat → Nat → Int) (y : Nat) (hy : y < R) : mkM R C (upIn C f y C) = mkM R C (upIn C f (y + 1) 0) := mkM_congr fun a b ha hb => by
  simp only [upIn]
  by_cases hl : a < y + 1
  · rw [if_pos (by omega), if_pos (by omega)]
  · rw [if_neg (by omega), if_neg (by omega)]
theorem upIn_all (R C : Nat) (f : Nat → Nat → Int) : mkM R C (upIn C f R 0) = mkM R C (invM f) := mkM_congr fun a b ha hb => by
  rw [upIn, if_pos (by omega)]; rfl
end Go.Proofs.Ytpinkjgpdapgeaa
/-
  PutCell of the model.
-/
namespace Go.Proofs.Ytpinkjgpdapgeaa
open Go.RowKit

theorem cellOk_in (c : Int) : decide (0 ≤ c ∧ c ≤ 1) = cellOk c := by
  unfold cellOk
  by_cases h0 : c = 0
  · subst h0; rfl
  · by_cases h1 : c = 1
    · subst h1; rfl
    · rw [decide_eq_false (by omega)]; simp [h0, h1]
theorem mkM_put (R C : Nat) (f : Nat → Nat → Int) (y x : Nat) (c : Int) : (mkM R C fun a b => if a = y ∧ b = x then c else f a b) = mkM R C (putM f y x c) := rfl
end Go.Proofs.Ytpinkjgpdapgeaa
/-
  The model's l10Paint: a piece made white.
-/
namespace Go.Proofs.Ytpinkjgpdapgeaa
open Go.RowKit

def PaintRes (R C : Nat) (f : Nat → Nat → Int) (y x : Int) (lo hi : Nat) (v : Value) (w : World) (e : Ending) (w' : World) : Prop :=
  e = .returned (.tuple #[]) ∧ Below lo w w' ∧ ∃ f', Img R C f' ∧ OwnMat w' lo hi v (mkM R C f') ∧ ∀ a b, blackP R C f' a b ↔ lessP (blackP R C f) [(y, x)] a b

theorem paint_none {R C : Nat} {f : Nat → Nat → Int} {y x : Int} {lo hi : Nat} {v : Value} {w : World} (hI : Img R C f) (ho : OwnMat w lo hi v (mkM R C f)) (h : ¬ blackP R C f y x) : PaintRes R C f y x lo hi v w (.returned (.tuple #[])) w :=
  ⟨rfl, Below.refl _ _, f, hI, ho, fun a b => (less_none h a b).symm⟩

end Go.Proofs.Ytpinkjgpdapgeaa
/-
  CountPieces and IsPolyomino of the model.
-/
namespace Go.Proofs.Ytpinkjgpdapgeaa
open Go.RowKit

/-- The image f' shows what is left ahead of position i. -/
def LeftF (R C : Nat) (f f' : Nat → Nat → Int) (i : Nat) : Prop := ∀ a b, blackP R C f' a b ↔ leftP R C f i a b

theorem leftF_zero (R C : Nat) (f : Nat → Nat → Int) : LeftF R C f f 0 := fun a b => (left_zero a b).symm

theorem leftF_first {R C : Nat} {f f' : Nat → Nat → Int} {y x : Nat} (h : LeftF R C f f' (5 * y + x)) (hy : y < R) (hx : x < C) (hC : C ≤ 5) : firstP R C f (5 * y + x) ↔ f' y x = 1 := by
  have e1 : (5 * y + x) / 5 = y := by omega
  have e2 : (5 * y + x) % 5 = x := by omega
  rw [← left_first, ← h, e1, e2, black_at hy hx]

theorem leftF_paint {R C : Nat} {f f1 f2 : Nat → Nat → Int} {y x : Nat} (h : LeftF R C f f1 (5 * y + x)) (hC : C ≤ 5) (hx : x < C) (hp : ∀ a b, blackP R C f2 a b ↔ lessP (blackP R C f1) [((y : Int), (x : Int))] a b) : LeftF R C f f2 (5 * y + x + 1) := fun a b => by
  have e1 : (5 * y + x) / 5 = y := by omega
  have e2 : (5 * y + x) % 5 = x := by omega
  rw [hp, left_succ, e1, e2]
  exact less_congr h a b

theorem leftF_skip {R C : Nat} {f f' : Nat → Nat → Int} {i : Nat} (h : LeftF R C f f' i) (hn : ¬ firstP R C f i) : LeftF R C f f' (i + 1) := fun a b => (h a b).trans (left_skip hn a b).symm

theorem not_first {R C : Nat} {f : Nat → Nat → Int} {i : Nat} (h : ¬ (i / 5 < R ∧ i % 5 < C)) : ¬ firstP R C f i := fun hf => h ⟨by have := hf.1.2.1; omega, by have := hf.1.2.2.2.1; omega⟩

theorem leftF_far {R C : Nat} {f f' : Nat → Nat → Int} {i : Nat} (h : LeftF R C f f' i) : ∀ k, (∀ j, i ≤ j → j < i + k → ¬ firstP R C f j) → LeftF R C f f' (i + k)
  | 0, _ => h
  | k + 1, hn => leftF_skip (leftF_far h k fun j h1 h2 => hn j h1 (by omega)) (hn (i + k) (by omega) (by omega))

theorem leftF_row {R C : Nat} {f f' : Nat → Nat → Int} {y : Nat} (h : LeftF R C f f' (5 * y + C)) (hC : C ≤ 5) : LeftF R C f f' (5 * (y + 1)) := by
  have := leftF_far h (5 - C) fun j h1 h2 => not_first (by omega)
  rwa [show 5 * y + C + (5 - C) = 5 * (y + 1) by omega] at this

theorem first_row {R C : Nat} {f : Nat → Nat → Int} {y : Nat} (hC : C ≤ 5) : cnt (headB R C f) (5 * (y + 1)) = cnt (headB R C f) (5 * y + C) :=
  cnt_skip (by omega) fun i h1 h2 => by rw [Bool.eq_false_iff]; exact fun e => not_first (by omega) (headB_iff.1 e)

theorem first_end {R C : Nat} {f : Nat → Nat → Int} (hR : R ≤ 5) : pieces R C f = cnt (headB R C f) (5 * R) :=
  cnt_skip (by omega) fun i h1 h2 => by rw [Bool.eq_false_iff]; exact fun e => not_first (by omega) (headB_iff.1 e)

/-- What CountPieces returns. -/
def cellOf (m : List (List Int)) (y x : Nat) : Int := (m.getD y []).getD x 0
theorem cellOf_mk (R C : Nat) (f : Nat → Nat → Int) {y x : Nat} (hy : y < R) (hx : x < C) : cellOf (mkM R C f) y x = f y x := by simp [cellOf, mkM, rowF, hy, hx]
noncomputable def piecesB (m : List (List Int)) : Int := if okB m = true then (pieces m.length (widthM m) (cellOf m) : Nat) else -1

theorem black_congr {R C : Nat} {f g : Nat → Nat → Int} (h : ∀ y x, y < R → x < C → f y x = g y x) (y x : Int) : blackP R C f y x ↔ blackP R C g y x := by
  unfold blackP
  constructor
  · rintro ⟨h1, h2, h3, h4, h5⟩
    exact ⟨h1, h2, h3, h4, by rw [← h _ _ (by omega) (by omega)]; exact h5⟩
  · rintro ⟨h1, h2, h3, h4, h5⟩
    exact ⟨h1, h2, h3, h4, by rw [h _ _ (by omega) (by omega)]; exact h5⟩

theorem pieces_congr {R C : Nat} {f g : Nat → Nat → Int} (h : ∀ y x, y < R → x < C → f y x = g y x) : pieces R C f = pieces R C g := by
  have e : headB R C f = headB R C g := funext fun i => by
    have hb := black_congr h
    rw [Bool.eq_iff_iff, headB_iff, headB_iff]
    exact and_congr (hb _ _) (forall_congr' fun j => imp_congr Iff.rfl (not_congr (conn_congr hb)))
  unfold pieces
  rw [e]

theorem piecesB_mk {R C : Nat} {f : Nat → Nat → Int} (hI : Img R C f) : piecesB (mkM R C f) = (pieces R C f : Nat) := by
  unfold piecesB
  rw [if_pos (img_ok hI), mkM_len, width_mkM hI.r1, pieces_congr fun y x hy hx => cellOf_mk R C f hy hx]

theorem piecesB_range (m : List (List Int)) : -1 ≤ piecesB m ∧ piecesB m ≤ 25 := by
  unfold piecesB
  split
  · have := cnt_le (headB m.length (widthM m) (cellOf m)) 25
    unfold pieces
    omega
  · omega

end Go.Proofs.Ytpinkjgpdapgeaa
