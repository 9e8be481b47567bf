/-
  Texts of this claim, one behind the other: IntSB.
-/
import Derived.Test.YtldbgkmgmhlbiaaPackB
/-
  Marks of a list of rows, from a greater number on.
-/
namespace Go.Proofs.Ytldbgkmgmhlbiaa
open Go.RowKit

set_option maxHeartbeats 400000 in
theorem markIntSSB_any (m : List (List Int)) (q lo hi : Nat) (v : Value) (w : World) (hn : m.length + cellsM m ≤ 1500000) (hq : q ≤ 2400000) (hv : OwnMat w lo hi v m) :
    Calls Try.prog 20 #[v, .int .i64 q] w fun e w' => e = .returned (.int .i64 (q + cellsM m : Nat)) ∧ OwnMat w' lo hi v (markM m q) ∧ Within lo hi w w' := by
  have hin := inMat_own hv
  obtain ⟨a, c, rfl, hm, hp⟩ := hin
  unfold maxLen at hm
  by_cases h0 : m.length = 0
  · have hr : m = [] := List.eq_nil_of_length_eq_zero h0
    subst hr
    have HV := hide hv
    clear hp hm h0 hn hv
    go_enter Try.func20, Try.ntmps20
    go_wp2
    go_loop [1, 5] (fun k i => i = .int .i64 0 ∧ k = .int .i64 q) (fun _ _ => 0)
    case atStart => exact ⟨rfl, rfl⟩
    case round =>
      obtain ⟨rfl, rfl⟩ := hrel
      go_wp2
      go_ret
      exact ⟨rfl, HV.out, within_refl _ _ _⟩
  · obtain ⟨g, o, rfl, hg, -⟩ := hp.resolve_left h0
    have ho : o = 0 := by
      obtain ⟨vs, hvs, -⟩ := hv
      rcases hvs.2 with ⟨e, _⟩ | ⟨g', cap, cur, e, _⟩
      · cases e
      · cases e; rfl
    subst ho
    have HV := hide hv
    clear hp h0 hv
    go_enter Try.func20, Try.ntmps20
    go_wp2
    go_loopw [1, 5] (fun k i w' => ∃ j t : Nat, j ≤ m.length ∧ i = .int .i64 j ∧ k = .int .i64 (q + t : Nat) ∧ cellsM (m.take j) = t ∧ OwnMat w' lo hi (.slice (some ⟨g, 0, none⟩) m.length c) (markTo m q j) ∧ Within lo hi w w') (fun _ i _ => m.length - (intOf i).toNat)
    case atStart => exact ⟨0, 0, Nat.zero_le _, rfl, rfl, by simp [cellsM], HV.out, within_refl _ _ _⟩
    case round =>
      obtain ⟨j, t, hj, rfl, rfl, ht, hown, hw⟩ := hrel
      have HT := hide ht; have HO := hide hown; have HW := hide hw
      have hle : t ≤ 1500000 := by have := cells_take m j; omega
      clear ht hown hw
      by_cases hlt : j < m.length
      · have hl := markTo_len m q j
        obtain ⟨u, hx, -, hu, huh, hset⟩ := ownMat_row HO.out j (by rw [hl]; exact hlt)
        have ha := markTo_at m q j j (by rw [hl]; exact hlt) hlt
        rw [if_neg (by omega)] at ha
        rw [ha] at hu hset
        have HU := hide hu; have HH := hide huh; have HS := hide hset
        have hrow : m[j].length ≤ 2000000 := by have := cells_row m j hlt; omega
        have HC := hide (cells_snoc m j hlt)
        have HD : Hid ((markTo m q j).set j (markR m[j].length (q + t)) = markTo m q (j + 1)) := hide (by
          rw [markTo, HT.out, List.getD_eq_getElem?_getD, List.getElem?_eq_getElem hlt]; rfl)
        clear hl ha hu huh hset
        obtain ⟨n, hnn⟩ : ∃ n, n = m[j].length := ⟨_, rfl⟩
        rw [← hnn] at HU hrow HC HD HS
        clear hnn
        go_wp2_with (go_at_call 19; refine (markIntS_any n (q + t) _ _ _ _ hrow (by omega) HU.out).mono ?_; rintro e w2 ⟨rfl, ho2, hg2⟩; have HO2 := hide ho2; have HG2 := hide hg2; clear ho2 hg2)
        go_roundw
        case rel =>
          have h1 := HS.out _ (markR n (q + t)) HO2.out (markR_len _ _) HG2.out
          rw [HD.out] at h1
          exact ⟨j + 1, t + n, by omega, by go_num, by go_num, by rw [HC.out, HT.out], h1, within_trans HW.out (within_grown HG2.out fun k hk => ⟨(HU.out.lt k hk).1, HH.out k hk⟩)⟩
        case measure => simp [intOf]; omega
      · obtain rfl : j = m.length := by omega
        have HA := hide (cells_all m m.length (Nat.le_refl _))
        go_wp2
        go_ret
        exact ⟨ret_int (by rw [← HA.out, HT.out]), HO.out, HW.out⟩

end Go.Proofs.Ytldbgkmgmhlbiaa
