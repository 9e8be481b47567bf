/-
  The first broken bound, and the least slack.
-/
import Derived.Test.YtecfigjkcpbggaaBoundsOf
namespace Go.Proofs.Ytecfigjkcpbggaa
open Go.RowKit

/-- The place of the first broken bound, k the place of the first one; -1. -/
def firstB : List (Int × Int) → Int → Int
  | [], _ => -1
  | b :: l, k => if b.2 - b.1 < 0 then k else firstB l (k + 1)
theorem firstB_drop {bs : List (Int × Int)} {k : Nat} (h : k < bs.length) : firstB (bs.drop k) k = if bs[k].2 - bs[k].1 < 0 then (k : Int) else firstB (bs.drop (k + 1)) ((k + 1 : Nat) : Int) := by
  rw [List.drop_eq_getElem_cons h, firstB]; simp
/-- The least slack, a among them. -/
def minB : List (Int × Int) → Int → Int
  | [], a => a
  | b :: l, a => minB l (if b.2 - b.1 < a then b.2 - b.1 else a)
theorem minB_drop {bs : List (Int × Int)} {k : Nat} (h : k < bs.length) (a : Int) : minB (bs.drop k) a = minB (bs.drop (k + 1)) (if bs[k].2 - bs[k].1 < a then bs[k].2 - bs[k].1 else a) := by
  rw [List.drop_eq_getElem_cons h, minB]
/-- Sums of images. -/
def SmallB (bs : List (Int × Int)) : Prop := ∀ i, (h : i < bs.length) → (0 ≤ bs[i].1 ∧ bs[i].1 ≤ 25) ∧ 0 ≤ bs[i].2 ∧ bs[i].2 ≤ 25
theorem smallB_tab {S C : List Int} (n : Nat) (hs : SmallL S) (hc : SmallL C) : SmallB (tabB n S C) := fun i hi => by
  rw [tabB_at hi]; exact ⟨small_sum hs _, small_sum hc _⟩

set_option maxHeartbeats 1000000 in
theorem indexBroken_any (v : Value) (bs : List (Int × Int)) (w : World) (hin : InBounds w v bs) (hs : SmallB bs) (hn : bs.length ≤ 5) :
    Calls Try.prog 81 #[v, .func (.func 83) #[] #[]] w fun e w' => e = .returned (.int .i64 (firstB bs 0)) ∧ Below w.heap.size w w' := by
  obtain ⟨g, c, rfl, -, hg, hc⟩ := hin
  have HC := hide hc; have HS := hide hs
  obtain ⟨n, hnn⟩ : ∃ n, n = bs.length := ⟨_, rfl⟩
  have HN := hide hnn
  rw [← hnn] at hn ⊢
  clear hc hs hnn
  go_enter Try.func81, Try.ntmps81
  go_wp2
  go_loopw [8] (fun i wr => ∃ k : Nat, k ≤ n ∧ i = .int .i64 k ∧ firstB bs 0 = firstB (bs.drop k) k ∧ Below w.heap.size w wr) (fun i _ => n - (intOf i).toNat)
  case atStart => exact ⟨0, Nat.zero_le _, rfl, rfl, Below.refl _ _⟩
  case round =>
    obtain ⟨k, hk, rfl, hf, hb⟩ := hrel
    have HF := hide hf; have HB := hide hb
    clear hf hb
    by_cases hlt : k < n
    · have hk' : k < bs.length := by rw [← HN.out]; exact hlt
      obtain ⟨hc1, hc2⟩ := HC.out k hk'
      have hc1 := below_cell HB.out hg hc1
      have hc2 := below_cell HB.out hg hc2
      have HBR := hide fun w => isBroken_any bs[k].1 bs[k].2 w (HS.out k hk').1 (HS.out k hk').2
      have HD := hide (firstB_drop hk')
      obtain ⟨s, hs⟩ : ∃ s, s = bs[k].1 := ⟨_, rfl⟩
      obtain ⟨m, hm⟩ : ∃ m, m = bs[k].2 := ⟨_, rfl⟩
      rw [← hs] at hc1 HBR HD
      rw [← hm] at hc2 HBR HD
      clear hs hm
      by_cases hbr : m - s < 0
      · have HE := hide (decide_eq_true hbr)
        have HR : Hid (firstB bs 0 = k) := hide (by rw [HF.out, HD.out, if_pos hbr])
        clear hbr
        go_wp2_with (go_at_call 83; refine (HBR.out _).mono ?_; rw [HE.out]; rintro e w9 ⟨rfl, hb⟩; have HB9 := hide (HB.out.trans (hb.mono HB.out.size)); clear hb)
        go_ret
        exact ⟨ret_int HR.out.symm, HB9.out⟩
      · have HE := hide (decide_eq_false hbr)
        have HR : Hid (firstB bs 0 = firstB (bs.drop (k + 1)) ((k + 1 : Nat) : Int)) := hide (by rw [HF.out, HD.out, if_neg hbr])
        clear hbr
        go_wp2_with (go_at_call 83; refine (HBR.out _).mono ?_; rw [HE.out]; rintro e w9 ⟨rfl, hb⟩; have HB9 := hide (HB.out.trans (hb.mono HB.out.size)); clear hb)
        go_roundw
        case rel => exact ⟨k + 1, by omega, by go_num, HR.out, HB9.out⟩
        case measure => simp [intOf]; omega
    · have HR : Hid (firstB bs 0 = -1) := hide (by rw [HF.out, List.drop_of_length_le (by have := HN.out; omega)]; rfl)
      go_wp2
      go_ret
      exact ⟨ret_int HR.out.symm, HB.out⟩

theorem boundAt_set {w : World} {g : Nat} {s m : Int} (h : BoundAt w g s m) (s' m' : Int) : BoundAt ((w.setCell ⟨g, 0, none⟩ (.int .i64 s')).setCell ⟨g, 1, none⟩ (.int .i64 m')) g s' m' := by
  have h1 := heap_setCell_same w g 0 _ _ (.int .i64 s') h
  exact heap_setCell_same _ g 1 _ _ (.int .i64 m') h1
theorem boundAt_other {w : World} {g q : Nat} {s m : Int} (h : BoundAt w g s m) (hne : g ≠ q) (s' m' : Int) : BoundAt ((w.setCell ⟨q, 0, none⟩ (.int .i64 s')).setCell ⟨q, 1, none⟩ (.int .i64 m')) g s m := by
  unfold BoundAt
  rw [heap_setCell_other _ ⟨q, 1, none⟩ g _ (fun e => hne e), heap_setCell_other _ ⟨q, 0, none⟩ g _ (fun e => hne e)]; exact h
def MinRes (bs : List (Int × Int)) (a : Int) (w : World) (e : Ending) (w' : World) : Prop := ∃ s m : Int, e = .returned (.agg #[.int .i64 s, .int .i64 m]) ∧ ((0 ≤ s ∧ s ≤ 25) ∧ 0 ≤ m ∧ m ≤ 25) ∧ m - s = minB (bs.drop 1) a ∧ Below w.heap.size w w'
end Go.Proofs.Ytecfigjkcpbggaa
