/-
  The program's images: size, lists.
-/
import Derived.Test.YtnhijmhambggbaaArr
import Derived.Test.YtnhijmhambggbaaShSl
namespace Go.Proofs.Ytnhijmhambggbaa
open Go.RowKit

set_option maxHeartbeats 400000 in
theorem size_any (G : Nat → Int) (n : Nat) (w : World) (hn : n ≤ 5) (h1 : ∀ j, j < n → G j ≠ -1) (h2 : n = 5 ∨ G n = -1) :
    Calls Try.prog 114 #[.agg (vec 5 G)] w fun e w' => e = .returned (.int .i64 n) ∧ Below w.heap.size w w' := by
  have N1 := hide h1; have N2 := hide h2
  clear h1 h2
  go_enter Try.func114, Try.ntmps114
  go_wp2_with (with_reducible refine wpList_boxVec 5 G 1 rfl rfl (.tmp 0) rfl rfl ?_; intro w1 h1 b1 s1)
  have H1 := hide h1; have B1 := hide b1
  clear h1 b1
  go_loop [3] (fun i => ∃ k : Nat, k ≤ n ∧ i = .int .i64 k) (fun i => n - (intOf i).toNat)
  case atStart => exact ⟨0, by omega, rfl⟩
  case round =>
    obtain ⟨k, hk, rfl⟩ := hrel
    by_cases hlt : k < n
    · have hx := blk_cell H1.out k (by omega)
      have hne := N1.out k hlt
      obtain ⟨y, hy⟩ : ∃ y, y = G k := ⟨_, rfl⟩
      rw [← hy] at hx hne
      have hb : (y != -1) = true := by simpa using hne
      have h5 : (k : Int) < 5 := by omega
      clear hy hne
      go_wp2
      go_round
      case rel => exact ⟨k + 1, by omega, by go_num⟩
      case measure => simp [intOf]; omega
    · obtain rfl : k = n := by omega
      by_cases h5 : k < 5
      · have hx := blk_cell H1.out k h5
        rw [N2.out.resolve_left (by omega)] at hx
        have h5' : (k : Int) < 5 := by omega
        go_wp2
        go_ret
        exact ⟨rfl, B1.out⟩
      · have h5' : ¬ (k : Int) < 5 := by omega
        go_wp2
        go_ret
        exact ⟨rfl, B1.out⟩

/-- A row of the padded image. -/
theorem imgF_row (R C : Nat) (f : Nat → Nat → Int) (y : Nat) : ∀ j, j < 5 → imgF R C f (y * 5 + j) = if y < R ∧ j < C then f y j else -1 := fun j hj => by
  rw [show y * 5 + j = 5 * y + j by omega, imgF_at R C f y j hj]

theorem ownMat_block {w w' : World} {lo hi g : Nat} {v : Value} {m : List (List Int)} (h : OwnMat w lo hi v m) (hg : w.grownBy w' (some g)) (hh : hi ≤ g) : OwnMat w' lo hi v m :=
  ownMat_within h (within_grown (lo := g) (hi := g + 1) hg fun k hk => by cases hk; exact ⟨Nat.le_refl _, Nat.lt_succ_self _⟩) (.inl hh)

set_option maxRecDepth 100000 in
set_option maxHeartbeats 1000000 in
theorem lists_any (R C : Nat) (f : Nat → Nat → Int) (w : World) (hI : Img R C f) :
    Calls Try.prog 83 #[.agg (vec 25 (imgF R C f))] w fun e w' => ∃ v, e = .returned v ∧ OwnMat w' w.heap.size w'.heap.size v (mkM R C f) ∧ Below w.heap.size w w' := by
  have hR := hI.r2; have hC := hI.c2; have hC1 := hI.c1
  have HI := hide hI
  clear hI
  go_enter Try.func83, Try.ntmps83
  go_wp2_with (first | (with_reducible refine wpList_boxVec 25 (imgF R C f) 1 rfl rfl (.tmp 0) rfl rfl ?_; intro w1 h1 b1 s1) | (with_reducible refine wpList_loadVec h1 7 rfl rfl _ rfl rfl Try.underlying88 Try.sizeImg ?_))
  have B1 := hide b1
  clear h1 b1 s1
  go_loopw [3, 8] (fun o i w' => ∃ (y : Nat) (v : Value), y ≤ 5 ∧ i = .int .i64 y ∧ v = o ∧ OwnMat w' w.heap.size w'.heap.size v (mkM (min y R) C f) ∧ Below w.heap.size w w') (fun _ i _ => 5 - (intOf i).toNat)
  case atStart => exact ⟨0, _, by omega, rfl, rfl, by rw [Nat.zero_min]; exact ownMat_nil _ _ _, B1.out⟩
  case round =>
    clear B1
    obtain ⟨y, v, hy, rfl, rfl, hown, hb⟩ := hrel
    have HO := hide hown; have HB := hide hb
    clear hown hb
    by_cases hlt : y < 5
    · have hyI : (y : Int) < 5 := by omega
      have HG := hide (imgF_row R C f y)
      have hsz := HB.out.size
      go_wp2_with (first | (with_reducible refine wpList_indexRow y 10 rfl rfl _ _ rfl rfl rfl Try.underlying88 Try.isAgg86 Try.sizeOf86 hlt (by omega) ?_) | (with_reducible refine wpList_allocVec 5 5 rfl rfl rfl Try.zeroRow ?_; intro w2 h2 b2 s2) | (with_reducible refine wpList_storeVec h2 rfl (.tmp 5) (.tmp 10) rfl rfl rfl Try.sizeRow ?_; intro w3 h3 g3 s3) | (with_reducible refine wpList_loadVec h3 11 rfl rfl _ rfl rfl Try.underlying86 Try.sizeRow ?_))
      have B3 := hide (HB.out.trans ((b2.mono hsz).trans (grown_below g3 (fun k hk => by cases hk; exact hsz) (by omega))))
      have O3 := hide (ownMat_block (ownMat_below HO.out b2) g3 (Nat.le_refl _))
      have H3 := hide h3
      have hs3 : w3.heap.size = wr.heap.size + 1 := by omega
      clear h2 b2 s2 h3 g3 s3
      by_cases hr : y < R
      · go_wp2_with fail
        refine (size_any _ C _ hC (fun j hj => ?_) ?_).mono ?_
        · rw [HG.out j (by omega), if_pos ⟨hr, hj⟩]
          rcases HI.out.cell y j hr hj with e | e <;> rw [e] <;> decide
        · by_cases e : C = 5
          · exact .inl e
          · right; rw [HG.out C (by omega), if_neg (by omega)]
        rintro e w4 ⟨rfl, b4⟩
        have H4 := hide (blk_below H3.out b4)
        have O4 := hide (ownMat_below O3.out b4)
        have B4 := hide (B3.out.trans (b4.mono (by omega)))
        have hs4 := b4.size
        clear b4
        have hpos : (0 : Int) < (C : Int) := by omega
        go_wp2_with (with_reducible refine wpList_sliceVec C 17 rfl rfl (.tmp 5) (.tmp 16) rfl rfl rfl Try.underlying86 Try.sizeOf3 hC ?_)
        refine (Try.slices_Clone_int wr.heap.size 0 C 5 (rowF C (f y)) _ (by rw [rowF_len]; exact Nat.le_refl _) (by omega) (fun j hj => ?_)).mono ?_
        · rw [rowF_len] at hj
          rw [Nat.zero_add, blk_cell H4.out j (by omega), HG.out j (by omega), if_pos ⟨hr, hj⟩, List.getD_eq_getElem?_getD, List.getElem?_eq_getElem (by rw [rowF_len]; exact hj), Option.getD_some, rowF_at]
        rintro e w5 ⟨u, rfl, hu, -, b5⟩
        have hu : w5.ownsRow w4.heap.size 3 1 u (rowF C (f y)).length (ints (rowF C (f y))) := by
          rw [rowF_len]
          have := hu
          rw [List.take_of_length_le (by rw [rowF_len]; exact Nat.le_refl _)] at this
          exact this
        obtain ⟨ua, uc, rfl⟩ := own_slice hu
        rw [rowF_len] at *
        have HU := hide hu
        have O5 := hide (ownMat_below O4.out b5)
        have B5 := hide (B4.out.trans (b5.mono (by omega)))
        have hs5 := b5.size
        clear hu b5
        have hmin : min y R = y := by omega
        rw [hmin] at O5
        clear hmin
        obtain ⟨vs, hv, hvh, hvr, hva⟩ := O5.out
        have hvl := mkM_len y C f
        rw [hvl] at hv
        have HV := hide hv; have HVH := hide hvh; have HVR := hide hvr; have HVA := hide hva
        clear hv hvh hvr hva hvl
        go_wp2_with (at_builtin; refine wpList_push HV.out (.slice ua C uc) (.slice none 0 0) rfl _ _ rfl Try.underlying23 Try.infoInts rfl (by decide) rfl rfl rfl (by omega) (by omega) ?_; intro v' w6 hown1 hb1 hg1)
        go_roundw
        case rel =>
          have hs6 := hb1.size
          have hp := ownMat_push (r := rowF C (f y)) (hi' := w6.heap.size) HVR.out HVA.out (by rw [mkM_len]; exact HV.out) (by rw [rowF_len]; exact own_base HU.out (by omega)) hsz (by omega) (by omega) hg1 (by rw [mkM_len]; exact hown1) (fun k e => (hown1.lt k e).2)
          rw [← mkM_succ, show y + 1 = min (y + 1) R by omega] at hp
          exact ⟨y + 1, _, by omega, by go_num, rfl, hp, B5.out.trans (hb1.mono (by omega))⟩
        case measure => simp [intOf]; omega
      · go_wp2_with fail
        refine (size_any _ 0 _ (by omega) (fun j hj => absurd hj (Nat.not_lt_zero _)) (.inr ?_)).mono ?_
        · rw [HG.out 0 (by omega), if_neg (by omega)]
        rintro e w4 ⟨rfl, b4⟩
        have O4 := hide (ownMat_below O3.out b4)
        have B4 := hide (B3.out.trans (b4.mono (by omega)))
        have hs4 := b4.size
        clear b4
        go_wp2
        go_roundw
        case rel =>
          have hp := ownMat_mono (hi' := w4.heap.size) O4.out (Nat.le_refl _) (by omega)
          rw [show min y R = min (y + 1) R by omega] at hp
          exact ⟨y + 1, _, by omega, by go_num, rfl, hp, B4.out⟩
        case measure => simp [intOf]; omega
    · have hmin : min y R = R := by omega
      rw [hmin] at HO
      clear hmin
      go_wp2
      go_ret
      exact ⟨_, rfl, HO.out, HB.out⟩
end Go.Proofs.Ytnhijmhambggbaa
