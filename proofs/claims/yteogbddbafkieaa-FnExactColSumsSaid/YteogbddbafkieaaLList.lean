/-
  The list of a map's numbers: lineMap.list.
-/
import Derived.Test.YteogbddbafkieaaLineMap
import Derived.Maps.RangeWalk
namespace Go.Proofs.Yteogbddbafkieaa
open Go.RowKit Go.Maps
open Go.ChangeMaps (setBlock)

theorem lm_absent {w : World} {b n : Nat} {A : Key → Bool} {F : Key → Int} (h : LM w b n A F) {k : Key} (hk : k.wf) (ha : A k = false) : F k = 0 := by
  obtain ⟨D, hD, hr⟩ := h
  have h1 := hr k hk
  rw [ha] at h1
  have := atKey_of_not_has h1.1 (.lit (.int .i64 0) : DataW Unit)
  rw [h1.2] at this
  simpa using this
theorem rowF_ints (N : Nat) (f g : Nat → Int) (h : ∀ i, i < N → f i = g i) : ints (rowF N f) = ints (rowF N g) := by rw [rowF_congr h]
theorem zeros_rowF (N : Nat) : List.replicate N (Value.int .i64 0) = ints (rowF N fun _ => 0) := by
  apply List.ext_getElem
  · simp [ints, rowF]
  · intro i h1 h2; simp [ints, rowF]

def RowRes (N : Nat) (f : Nat → Int) (w : World) (e : Ending) (w' : World) : Prop := ∃ v, e = .returned v ∧ w'.ownsRow w.heap.size 3 1 v N (ints (rowF N f)) ∧ Below w.heap.size w w'
set_option maxHeartbeats 2000000 in
theorem list_any (b n N : Nat) (A : Key → Bool) (F : Key → Int) (dx dy : Int) (w : World) (h : LM w b n A F) (hA : ∀ k : Key, k.wf → A k = true → (k.x = dx ∧ k.y = dy) ∧ 0 ≤ k.n ∧ k.n < N) (hN : N ≤ 1000) (hx : (Lit.int .i64 dx).wf = true) (hy : (Lit.int .i64 dy).wf = true) :
    Calls Try.prog 49 #[.map (some b), .int .i64 N] w (RowRes N (fun i => F ⟨dx, dy, i⟩) w) := by
  have HLM := hide h; have HA := hide hA
  have hbl := lm_lt h
  have HWF : Hid (∀ i : Nat, i < N → (⟨dx, dy, i⟩ : Key).wf) := hide fun i hi => key_wf hx hy (WalkArith.wf_i64 (by omega))
  clear h hA hx hy
  go_enter Try.func49, Try.ntmps49
  go_wp2_with (first | (at_make; refine wpList_new w.heap.size N (.int .i64 0) rfl _ _ rfl Try.underlying24 Try.infoInt rfl (by decide) rfl rfl (by omega) (Nat.le_refl _) ?_; intro w1 hown1 hb1 hg1; have HO1 := hide hown1; have HB1 := hide hb1; have HL1 := hide (lm_below HLM.out hb1); have hsz1 := hb1.size; have hgl := (hown1.lt _ rfl).2; clear hown1 hb1 hg1) | (at_range; refine wpList_rangeLM w1 rfl _ rfl rfl HL1.out ?_; intro w2 cnt hlr hb2 hs2; have HR2 := hide hlr; have HB2 := hide hb2; clear hlr hb2))
  obtain ⟨G, hG⟩ : ∃ G, G = w.heap.size := ⟨_, rfl⟩
  obtain ⟨r, hr⟩ : ∃ r, r = w1.heap.size := ⟨_, rfl⟩
  have HGG := hide hG; have HRR := hide hr
  rw [← hG] at HO1 hgl hbl ⊢
  rw [← hr] at HR2 hgl hs2 ⊢
  clear hG hr
  have HBW := hide (HB1.out.trans (HB2.out.mono hsz1))
  have HO2 := hide (own_below HO1.out HB2.out)
  go_loopw [6] (fun _ wr => ∃ (left : Key → Bool) (cnt : Nat), LR wr b r n A F left cnt ∧ (∀ k : Key, left k = true → A k = true) ∧ wr.ownsRow G 3 1 (.slice (some ⟨G, 0, none⟩) N N) N (ints (rowF N fun i => if left ⟨dx, dy, i⟩ = true then 0 else F ⟨dx, dy, i⟩)) ∧ Below w.heap.size w wr) (fun _ wr => wr.rangeLeft b r)
  case atStart =>
    refine ⟨A, cnt, HR2.out, fun k h => h, ?_, HBW.out⟩
    have e : List.replicate N (Value.int .i64 0) = ints (rowF N fun i => if A ⟨dx, dy, i⟩ = true then 0 else F ⟨dx, dy, i⟩) := by
      rw [zeros_rowF]
      refine rowF_ints N _ _ fun i hi => ?_
      cases h : A ⟨dx, dy, i⟩ with
      | true => rfl
      | false => simp only [Bool.false_eq_true, if_false]; exact (lm_absent HL1.out (HWF.out i hi) h).symm
    rw [← e]; exact HO2.out
  case round =>
    obtain ⟨left, cnt', hlr, hle, ho, hb⟩ := hrel
    have HR := hide hlr; have HE := hide hle; have HO := hide ho; have HB := hide hb
    have hrw := lr_lt hlr
    have hgw := (ho.lt _ rfl).2
    clear hlr hle ho hb
    go_wp2_with (at_next; refine wpList_nextLR wr rfl _ rfl rfl HR.out ?_ ?_)
    · intro hd
      have HD := hide hd
      clear hd
      go_wp2
      go_ret
      refine ⟨_, rfl, ?_, HB.out⟩
      have e : ints (rowF N fun i => if left ⟨dx, dy, i⟩ = true then 0 else F ⟨dx, dy, i⟩) = ints (rowF N fun i => F ⟨dx, dy, i⟩) := rowF_ints N _ _ fun i hi => by rw [HD.out _ (HWF.out i hi)]; simp
      rw [← e, ← HGG.out]; exact HO.out
    · intro k w3 cnt3 hkw hlk hlr3 hlt hg3 hs3 hen
      obtain ⟨⟨hkx, hky⟩, hk0, hkN⟩ := HA.out k hkw (HE.out k hlk)
      obtain ⟨kx, ky, kn⟩ := k
      simp only at hkx hky hk0 hkN
      subst hkx hky
      obtain ⟨i, rfl⟩ : ∃ i : Nat, kn = i := ⟨kn.toNat, by omega⟩
      have hiN : i < N := by omega
      have HLR3 := hide hlr3
      have hgw3 : G < w3.heap.size := by omega
      have ho3 := HO.out.kept hg3 (.inr (by simp [Value.ownBlock]; omega))
      have hcl := cell_held ho3 hiN
      have hfz := ho3.frozenAt i
      obtain ⟨c, hc⟩ : ∃ c, c = F ⟨kx, ky, i⟩ := ⟨_, rfl⟩
      have HC := hide hc
      obtain ⟨z0, hz0⟩ : ∃ z0, z0 = (ints (rowF N fun i => if left ⟨kx, ky, i⟩ = true then 0 else F ⟨kx, ky, i⟩)).getD i undef := ⟨_, rfl⟩
      rw [← hz0] at hcl
      rw [← hc] at hen ⊢
      unfold keyV at hen ⊢
      simp only at hen ⊢
      obtain ⟨s1, s2⟩ := ho3.stored i (.int .i64 c)
      have s2' : w3.grownBy (w3.setCell ⟨G, i, none⟩ (.int .i64 c)) (some G) := s2
      have hal : Below (w3.setCell ⟨G, i, none⟩ (.int .i64 c)).heap.size (w3.setCell ⟨G, i, none⟩ (.int .i64 c)) ((w3.setCell ⟨G, i, none⟩ (.int .i64 c)).alloc (.cells #[.int .i64 kx, .int .i64 ky, .int .i64 i] 71)) := (Below.refl _ _).alloc (Nat.le_refl _) _
      have HL4 := hide (lr_below (lr_grown HLR3.out s2' (by simp; omega) (by simp; omega)) hal)
      have HB4 : Hid (Below w.heap.size w ((w3.setCell ⟨G, i, none⟩ (.int .i64 c)).alloc (.cells #[.int .i64 kx, .int .i64 ky, .int .i64 i] 71))) := hide (by
        have q1 : Below w.heap.size w w3 := HB.out.trans (grown_below hg3 (fun k hk => by cases hk; rw [HRR.out]; exact hsz1) HB.out.size)
        have q2 := q1.trans (grown_below s2' (fun k hk => by cases hk; rw [HGG.out]; exact Nat.le_refl _) q1.size)
        exact q2.trans (hal.mono q2.size))
      have HS4 : Hid (((w3.setCell ⟨G, i, none⟩ (.int .i64 c)).alloc (.cells #[.int .i64 kx, .int .i64 ky, .int .i64 i] 71)).ownsRow G 3 1 (.slice (some ⟨G, 0, none⟩) N N) N (ints (rowF N fun j => if (left ⟨kx, ky, j⟩ && !decide ((⟨kx, ky, j⟩ : Key) = ⟨kx, ky, i⟩)) = true then 0 else F ⟨kx, ky, j⟩))) := hide (by
        rw [ints_set, rowF_set] at s1
        have e : ints (rowF N fun j => if j = i then c else if left ⟨kx, ky, j⟩ = true then 0 else F ⟨kx, ky, j⟩) = ints (rowF N fun j => if (left ⟨kx, ky, j⟩ && !decide ((⟨kx, ky, j⟩ : Key) = ⟨kx, ky, i⟩)) = true then 0 else F ⟨kx, ky, j⟩) := rowF_ints N _ _ fun j hj => by
          by_cases hji : j = i
          · subst hji; rw [if_pos rfl, decide_eq_true rfl]; simp [HC.out]
          · rw [if_neg hji, decide_eq_false (fun h => hji (by cases h; rfl))]; simp
        rw [← e]; exact s1.alloc _)
      have HE4 : Hid (∀ z : Key, (left z && !decide (z = ⟨kx, ky, i⟩)) = true → A z = true) := hide fun z hz => by
        rw [Bool.and_eq_true] at hz; exact HE.out z hz.1
      clear hlr3 ho3 hal s1 s2 s2' hg3 hc hz0 hlk hkw
      go_wp2
      go_roundw
      case rel => exact ⟨_, cnt3, HL4.out, HE4.out, HS4.out, HB4.out⟩
      case measure => rw [lr_left HL4.out, lr_left HR.out]; exact hlt
end Go.Proofs.Yteogbddbafkieaa
