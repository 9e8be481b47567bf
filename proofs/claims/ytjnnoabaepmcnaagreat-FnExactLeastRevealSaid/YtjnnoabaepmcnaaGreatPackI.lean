/-
  Texts of this claim, one behind the other: Seq, ShSort, SortF, Grown, Bound, Bounds, BoundsOf, Min, Exist.
-/
import Derived.Test.YtjnnoabaepmcnaaGreatPackD
import Derived.RangeFuncBox
import Derived.RangeFuncLeaves
import Derived.Shelf.Abstract
import Derived.OwnWalkIn
import Derived.TacticsInMore
import Derived.LoopNIn
import Derived.LoopIn
import Derived.Maps.AppendAt
import Derived.Shelf.SlSortCmp.NoneTotal
import Derived.Test.YtjnnoabaepmcnaaGreatProg
import Derived.Test.YtjnnoabaepmcnaaGreatPackA
import Derived.Shelf.SlSortCmp.QuietGrown
import Derived.Test.YtjnnoabaepmcnaaGreatPackC
/-
  slices.Collect over slices.Values: a copy of the list, in memory of the call's own.
-/
namespace Go.Proofs.YtjnnoabaepmcnaaGreat
open Go.RowKit Go.Shelf
attribute [local go_sem] Oper.semAt_some

set_option maxRecDepth 100000 in
set_option maxHeartbeats 2000000 in
/-- The iterator of slices.Values: the elements in their order, for every body that keeps what lay in w. -/
theorem valuesEach_in (F : Fence) (n : Nat) (hF : F.fn 118) (hro : F.round = none) (hn : 1 ≤ n) (l Bs : Nat) (v : Value) (zs : List Int) (w W : World) (hin : InRow w v zs) (hW : Below w.heap.size w W) (J Jx : List Int → World → Prop)
    (hY : ∀ pre x W, J pre W → pre.length < zs.length → YieldAt F (n - 1) Tryz.prog l #[.int .i64 x] W fun e W' =>
      (e = .returned (.bool true) ∧ J (pre ++ [x]) W' ∧ Below w.heap.size W W') ∨ (e = .returned (.bool false) ∧ Jx (pre ++ [x]) W'))
    (hBs : W.cell? ⟨Bs, 0, none⟩ = some v) (h0 : J [] W) :
    CallsIn F n Tryz.prog 118 #[.func (.yield l) #[] #[], .pointer (some ⟨Bs, 0, none⟩)] W fun e W' => (∃ u, e = .returned u) ∧ ((∃ ys, ys = zs ∧ J ys W') ∨ ∃ pre, pre <+: zs ∧ Jx pre W') := by
  obtain ⟨a, c, rfl, hm, hp⟩ := hin
  unfold maxLen at hm
  have HP := hide fun h : zs.length ≠ 0 => hp.resolve_left h
  have HY := hide hY
  obtain ⟨L, hL⟩ : ∃ L, L = zs.length := ⟨_, rfl⟩
  have HL := hide hL
  rw [← hL] at hm hBs
  clear hp hL hY
  refine callsIn_of_wp Tryz.func118 rfl hF ?_ hro
  simp only [Tryz.ntmps118, List.size_toArray, List.length_cons, List.length_nil, Nat.reduceAdd, Nat.reduceSub, Array.replicate_succ, Array.replicate_zero, List.push_toArray, List.append_toArray, List.nil_append, List.cons_append]
  gi_wp2
  gi_loopw [7] (fun i wr => ∃ k : Nat, k ≤ L ∧ i = .int .i64 k ∧ J (zs.take k) wr ∧ Below w.heap.size w wr) (fun i _ => L - (intOf i).toNat)
  case atStart => exact ⟨0, Nat.zero_le _, rfl, h0, hW⟩
  case round =>
    obtain ⟨k, hk, rfl, hJ, hB⟩ := hrel
    have HB := hide hB
    clear hB
    by_cases hlt : k < L
    · obtain ⟨g, o, rfl, hg, hc⟩ := HP.out (by have := HL.out; omega)
      have hk' : k < zs.length := by rw [← HL.out]; exact hlt
      have hx := below_cell HB.out hg (hc k hk')
      have HT := hide (show zs.take (k + 1) = zs.take k ++ [zs[k]] from List.take_succ_eq_append_getElem hk')
      obtain ⟨x, hxx⟩ : ∃ x, x = zs[k] := ⟨_, rfl⟩
      rw [← hxx] at hx HT
      clear hxx hc
      obtain ⟨fn, tmps, assign, body, hy, hR⟩ := HY.out _ x wr hJ (by rw [List.length_take]; omega)
      gi_wp2
      refine hR.mono ?_
      rintro e W3 (⟨rfl, hJ3, hk3⟩ | ⟨rfl, hJx3⟩)
      · have HB3 := hide (HB.out.trans hk3)
        have HJ3 := hide (show J (zs.take (k + 1)) W3 by rw [HT.out]; exact hJ3)
        clear hJ3 hk3
        gi_wp2
        go_roundw
        case rel => exact ⟨k + 1, by omega, by go_num, HJ3.out, HB3.out⟩
        case measure => simp [intOf]; omega
      · have HJ3 := hide (show Jx (zs.take (k + 1)) W3 by rw [HT.out]; exact hJx3)
        clear hJx3
        gi_wp2
        refine bodyPost_ret (results_none rfl _ _ _) rfl ?_
        exact ⟨⟨_, rfl⟩, .inr ⟨_, List.take_prefix _ _, HJ3.out⟩⟩
    · have HE : Hid (zs.take k = zs) := hide (List.take_of_length_le (by have := HL.out; omega))
      rw [HE.out] at hJ
      gi_wp2
      go_end0
      exact ⟨⟨_, rfl⟩, .inl ⟨_, rfl, hJ⟩⟩

set_option maxRecDepth 100000 in
set_option maxHeartbeats 2000000 in
theorem appendSeq_in (F : Fence) (n : Nat) (hA : F.fn 120) (hV : F.fn 118) (hro : F.round = none) (hn : 3 ≤ n) (Bs : Nat) (v : Value) (zs : List Int) (w : World) (hin : InRow w v zs) (hlen : zs.length ≤ 2000000) (hB : Bs < w.heap.size) (hc : w.cell? ⟨Bs, 0, none⟩ = some v) :
    CallsIn F n Tryz.prog 120 #[.slice none 0 0, .func (.func 118) #[] #[.pointer (some ⟨Bs, 0, none⟩)]] w (IntsRes zs w) := by
  have h1 : 1 ≤ n := by omega
  have HI := hide hin
  obtain ⟨i0, hi, hz0, hz1, hz2⟩ := info_parts Tryz.infoInt
  clear hin
  refine callsIn_of_wp_marks Tryz.func120 rfl hA ?_ hro
  simp only [Tryz.ntmps120, List.size_toArray, List.length_cons, List.length_nil, Nat.reduceAdd, Nat.reduceSub, Array.replicate_succ, Array.replicate_zero, List.push_toArray, List.append_toArray, List.nil_append, List.cons_append]
  gi_wp2
  have bO := Boxed.new w 23 (.slice none 0 0)
  have hB0 : Below w.heap.size w (w.alloc (.cells #[.slice none 0 0] 23)) := (Below.refl _ w).alloc (Nat.le_refl _) _
  have hI0 := inRow_below HI.out hB0
  have hc0 := below_cell hB0 hB hc
  refine wpIn_rangeFunc_ownG hro h1 (gf := 118) (lb := #[.pointer (some ⟨Bs, 0, none⟩)]) rfl hV (enters_of Tryz.func118 (by kernel_rfl) rfl)
    (encs := fun x : Int => #[Value.int .i64 x]) (Kp := Below w.heap.size) (S := fun ys => ys = zs) (Sp := fun pre => pre <+: zs) (N := zs.length) (w0 := w.alloc (.cells #[.slice none 0 0] 23))
    (fun l J Jx W hW _ _ hY h0 => valuesEach_in F (n - 1) hV hro (by omega) l Bs v zs w W HI.out (hB0.trans (hW.mono hB0.size)) J Jx hY (below_cell hW (Nat.lt_of_lt_of_le hB hB0.size) hc0) h0) belowK_t (belowK_b (by simp)) (Below.refl _ _) (fun _ => rfl)
    (fun pre W => (∃ u, Boxed W w.heap.size 23 u ∧ W.ownsRow w.heap.size 3 1 u pre.length (ints pre) ∧ True) ∧ Below w.heap.size w W)
    (fun _ _ _ => False)
    (OwnFrom.and (Own.from (holdsRow_own w.heap.size w.heap.size 23 3 1 (fun pre : List Int => pre.length) (fun pre => ints pre) (fun _ _ => True)) _) (ownFrom_below (Nat.le_refl _) (by simp)))
    (fun _ _ _ _ _ hs _ _ => hs)
    ⟨⟨_, bO, World.ownsRow_nil _ _ _ _, trivial⟩, hB0⟩
    (fun x => { tmps := #[.slice none 0 0, .func (.func 118) #[] #[.pointer (some ⟨Bs, 0, none⟩)], .pointer (some ⟨w.heap.size, 0, none⟩), undef, .slice none 0 0, .int .i64 x, .func (.func 118) #[] #[.pointer (some ⟨Bs, 0, none⟩)], .int .i64 x, undef, undef, undef, undef, undef], defers := [] }) ?assign ?body ?done ?stop
  case assign =>
    intro l x W K hK
    gi_wp2
    exact hK
  case body =>
    rintro l pre x W ⟨⟨u, hv, hrow, -⟩, hBW⟩ hlt
    have hcu := hv.cell
    gi_wp2_with (gi_at_builtin; refine wpListIn_append_own _ rfl _ _ 23 rfl w.heap.size 3 i0 (.int .i64 0) 1 8 Tryz.underlying23 hi hz0 hz1 hz2 rfl (by decide) _ _ _ rfl (hrow.alloc _) ⟨W.heap.size, 0, none⟩ 1 1 [.int .i64 x] rfl rfl (cell_one_new _ _ _) (by simp [Value.oneCell']) (by unfold maxLen; omega) (by omega) (by have := hBW.size; simp; omega) ?_; intro v' w1 hown' hgrow _; obtain ⟨g', cap', rfl⟩ := ownsRow_succ hown'; obtain ⟨hv1, hv2, hr2, hk2, hb2⟩ := hv.appended (by decide) hrow hBW.size (Nat.le_refl _) hown' hgrow; have hc1 := hv1.cell; have hf1 := hv1.frozen)
    exact ⟨hk2.from _, hb2, ⟨_, hv2, by simpa [ints] using hr2, trivial⟩, hBW.trans hb2⟩
  case done =>
    rintro D ys W hD rfl ⟨⟨u, hv, hrow, -⟩, hBW⟩ hK
    have hcu := hv.cell
    gi_wp2
    refine ⟨by simp, .inl ⟨_, _, rfl, run_takeDeferred hK, ?_⟩⟩
    exact ⟨_, results_tmp rfl _ _ _, _, rfl, ownsRow_putObj hrow _ hK rfl, hBW.trans (belowK_b (w := w) (Nat.le_refl _) W D _ _ (by simp at hD; omega) hK rfl rfl)⟩
  case stop =>
    rintro D c pre W _ _ h _
    exact h.elim

set_option maxHeartbeats 1000000 in
theorem collect_in (F : Fence) (n : Nat) (hC : F.fn 116) (hA : F.fn 120) (hV : F.fn 118) (hro : F.round = none) (hn : 4 ≤ n) (Bs : Nat) (v : Value) (zs : List Int) (w : World) (hin : InRow w v zs) (hlen : zs.length ≤ 2000000) (hB : Bs < w.heap.size) (hc : w.cell? ⟨Bs, 0, none⟩ = some v) :
    CallsIn F n Tryz.prog 116 #[.func (.func 118) #[] #[.pointer (some ⟨Bs, 0, none⟩)]] w (IntsRes zs w) := by
  have HX := hide (appendSeq_in F (n - 1) hA hV hro (by omega) Bs v zs w hin hlen hB hc)
  have h1 : 1 ≤ n := by omega
  clear hin hc
  refine callsIn_of_wp Tryz.func116 rfl hC ?_ hro
  simp only [Tryz.ntmps116, List.size_toArray, List.length_cons, List.length_nil, Nat.reduceAdd, Nat.reduceSub, Array.replicate_succ, Array.replicate_zero, List.push_toArray, List.append_toArray, List.nil_append, List.cons_append]
  gi_wp2_with (gi_at_call 120; refine HX.out.mono ?_; rintro e w' ⟨u, rfl, ho, hb⟩)
  go_ret
  exact ⟨_, rfl, ho, hb⟩
theorem collectVals_any (Bs : Nat) (v : Value) (zs : List Int) (w : World) (hin : InRow w v zs) (hlen : zs.length ≤ 2000000) (hB : Bs < w.heap.size) (hc : w.cell? ⟨Bs, 0, none⟩ = some v) :
    Calls Tryz.prog 116 #[.func (.func 118) #[] #[.pointer (some ⟨Bs, 0, none⟩)]] w (IntsRes zs w) :=
  (callsIn_wide (n := 4)).1 (collect_in Fence.wide 4 trivial trivial trivial rfl (by omega) Bs v zs w hin hlen hB hc)
end Go.Proofs.YtjnnoabaepmcnaaGreat
/-
  Contracts of the library, at this translation: laid by the shelf, in plain declarations.
-/
namespace Go.Proofs
open Go.Shelf
def Tryz.sortI_ren : Go.Shelf.Ren := ⟨fun | 6 => 117 | 15 => 122 | 14 => 121 | 28 => 131 | 29 => 132 | 20 => 123 | 21 => 124 | 22 => 125 | 23 => 126 | 24 => 127 | 25 => 128 | 26 => 129 | 27 => 130 | 46 => 133 | 47 => 134 | 48 => 135 | 49 => 136 | 50 => 137 | 57 => 138 | n => n, fun | 22 => 23 | 24 => 3 | 25 => 124 | 3 => 3 | 39 => 97 | 0 => 0 | 53 => 106 | 55 => 108 | 4 => 4 | 46 => 131 | 45 => 130 | 50 => 135 | 5 => 5 | 9 => 9 | 66 => 137 | 70 => 141 | 76 => 143 | 77 => 144 | n => n, fun | n => n⟩
theorem Tryz.sortI : Go.Proofs.SlLaysF.n6 Tryz.prog Tryz.sortI_ren := {
  mixed := by kernel_rfl
  f6 := ⟨Tryz.f117.name, by decide, Tryz.func117.trans (congrArg some (by kernel_rfl))⟩
  f14 := ⟨Tryz.f121.name, by decide, Tryz.func121.trans (congrArg some (by kernel_rfl))⟩
  f15 := Tryz.func122.trans (congrArg some (by kernel_rfl))
  f20 := ⟨Tryz.f123.name, by decide, Tryz.func123.trans (congrArg some (by kernel_rfl))⟩
  f21 := ⟨Tryz.f124.name, by decide, Tryz.func124.trans (congrArg some (by kernel_rfl))⟩
  f22 := ⟨Tryz.f125.name, by decide, Tryz.func125.trans (congrArg some (by kernel_rfl))⟩
  f23 := ⟨Tryz.f126.name, by decide, Tryz.func126.trans (congrArg some (by kernel_rfl))⟩
  f24 := ⟨Tryz.f127.name, by decide, Tryz.func127.trans (congrArg some (by kernel_rfl))⟩
  f25 := ⟨Tryz.f128.name, by decide, Tryz.func128.trans (congrArg some (by kernel_rfl))⟩
  f26 := ⟨Tryz.f129.name, by decide, Tryz.func129.trans (congrArg some (by kernel_rfl))⟩
  f27 := ⟨Tryz.f130.name, by decide, Tryz.func130.trans (congrArg some (by kernel_rfl))⟩
  f28 := Tryz.func131.trans (congrArg some (by kernel_rfl))
  f29 := Tryz.func132.trans (congrArg some (by kernel_rfl))
  f46 := ⟨Tryz.f133.name, by decide, Tryz.func133.trans (congrArg some (by kernel_rfl))⟩
  f47 := Tryz.func134.trans (congrArg some (by kernel_rfl))
  f48 := Tryz.func135.trans (congrArg some (by kernel_rfl))
  f49 := ⟨Tryz.f136.name, by decide, Tryz.func136.trans (congrArg some (by kernel_rfl))⟩
  f50 := ⟨Tryz.f137.name, by decide, Tryz.func137.trans (congrArg some (by kernel_rfl))⟩
  f57 := ⟨Tryz.f138.name, by decide, Tryz.func138.trans (congrArg some (by kernel_rfl))⟩
  t0 := Tryz.underlying0
  a0 := Tryz.isAgg0
  z0 := Tryz.sizeOf0
  v0 := Tryz.zeroValue0
  t3 := Tryz.underlying3
  a3 := Tryz.isAgg3
  z3 := Tryz.sizeOf3
  v3 := Tryz.zeroValue3
  t4 := Tryz.underlying4
  a4 := Tryz.isAgg4
  z4 := Tryz.sizeOf4
  v4 := Tryz.zeroValue4
  t5 := Tryz.underlying5
  a5 := Tryz.isAgg5
  z5 := Tryz.sizeOf5
  v5 := Tryz.zeroValue5
  t9 := Tryz.underlying9
  a9 := Tryz.isAgg9
  z9 := Tryz.sizeOf9
  v9 := Tryz.zeroValue9
  t22 := Tryz.underlying23
  a22 := Tryz.isAgg23
  z22 := Tryz.sizeOf23
  v22 := Tryz.zeroValue23
  a24 := Tryz.isAgg3
  z24 := Tryz.sizeOf3
  t25 := Tryz.underlying124
  a25 := Tryz.isAgg124
  z25 := Tryz.sizeOf124
  v25 := Tryz.zeroValue124
  t39 := Tryz.underlying97
  a39 := Tryz.isAgg97
  z39 := Tryz.sizeOf97
  v39 := Tryz.zeroValue97
  t45 := Tryz.underlying130
  a45 := Tryz.isAgg130
  z45 := Tryz.sizeOf130
  v45 := Tryz.zeroValue130
  t46 := Tryz.underlying131
  a46 := Tryz.isAgg131
  z46 := Tryz.sizeOf131
  v46 := Tryz.zeroValue131
  t50 := Tryz.underlying135
  a50 := Tryz.isAgg135
  z50 := Tryz.sizeOf135
  v50 := Tryz.zeroValue135
  t53 := Tryz.underlying106
  a53 := Tryz.isAgg106
  z53 := Tryz.sizeOf106
  v53 := Tryz.zeroValue106
  t55 := Tryz.underlying108
  a55 := Tryz.isAgg108
  z55 := Tryz.sizeOf108
  v55 := Tryz.zeroValue108
  t66 := Tryz.underlying137
  a66 := Tryz.isAgg137
  z66 := Tryz.sizeOf137
  v66 := Tryz.zeroValue137
  t70 := Tryz.underlying141
  a70 := Tryz.isAgg141
  z70 := Tryz.sizeOf141
  v70 := Tryz.zeroValue141
  t76 := Tryz.underlying143
  a76 := Tryz.isAgg143
  z76 := Tryz.sizeOf143
  v76 := Tryz.zeroValue143
  t77 := Tryz.underlying144
  a77 := Tryz.isAgg144
  z77 := Tryz.sizeOf144
  v77 := Tryz.zeroValue144 }
end Go.Proofs
/-
  SortedDown of the program: slices.SortedFunc over slices.Values.
-/
namespace Go.Proofs.YtjnnoabaepmcnaaGreat
open Go.RowKit

/-- cmp.Compare on integers. -/
def cmpI (x y : Int) : Int := if x < y then -1 else if y < x then 1 else 0
theorem cmpI_neg (x y : Int) : (cmpI x y < 0) = (x < y) := by
  unfold cmpI
  by_cases h1 : x < y
  · rw [if_pos h1]; simp [h1]
  · rw [if_neg h1]
    by_cases h2 : y < x
    · rw [if_pos h2]; simp; omega
    · rw [if_neg h2]; simp; omega
theorem isNaN_any (x : Int) (w : World) : Calls Tryz.prog 119 #[.int .i64 x] w fun e w' => e = .returned (.bool false) ∧ w = w' := by
  go_enter Tryz.func119, Tryz.ntmps119
  go_wp2
  go_ret
  exact ⟨ret_bool (by simp), rfl⟩
set_option maxHeartbeats 400000 in
theorem compare_any (x y : Int) (w : World) : Calls Tryz.prog 115 #[.int .i64 x, .int .i64 y] w fun e w' => e = .returned (.int .i64 (cmpI x y)) ∧ w = w' := by
  have H1 := hide fun h : x < y => (show cmpI x y = -1 by rw [cmpI, if_pos h])
  have H2 := hide fun (h : ¬ x < y) (h2 : y < x) => (show cmpI x y = 1 by rw [cmpI, if_neg h, if_pos h2])
  have H3 := hide fun (h : ¬ x < y) (h2 : ¬ y < x) => (show cmpI x y = 0 by rw [cmpI, if_neg h, if_neg h2])
  by_cases h1 : x < y
  · rw [H1.out h1]
    go_enter Tryz.func115, Tryz.ntmps115
    go_wp2_with (first | (with_reducible refine (isNaN_any x _).mono ?_; rintro e w' ⟨rfl, rfl⟩) | (with_reducible refine (isNaN_any y _).mono ?_; rintro e w' ⟨rfl, rfl⟩))
    go_ret
    exact ⟨rfl, rfl⟩
  · by_cases h2 : y < x
    · rw [H2.out h1 h2]
      go_enter Tryz.func115, Tryz.ntmps115
      go_wp2_with (first | (with_reducible refine (isNaN_any x _).mono ?_; rintro e w' ⟨rfl, rfl⟩) | (with_reducible refine (isNaN_any y _).mono ?_; rintro e w' ⟨rfl, rfl⟩))
      go_ret
      exact ⟨rfl, rfl⟩
    · rw [H3.out h1 h2]
      go_enter Tryz.func115, Tryz.ntmps115
      go_wp2_with (first | (with_reducible refine (isNaN_any x _).mono ?_; rintro e w' ⟨rfl, rfl⟩) | (with_reducible refine (isNaN_any y _).mono ?_; rintro e w' ⟨rfl, rfl⟩))
      go_ret
      exact ⟨rfl, rfl⟩
theorem downCmp_any (x y : Int) (w : World) : Calls Tryz.prog 114 #[.int .i64 x, .int .i64 y] w fun e w' => e = .returned (.int .i64 (cmpI y x)) ∧ w = w' := by
  go_enter Tryz.func114, Tryz.ntmps114
  go_wp2_with ((with_reducible refine (compare_any y x _).mono ?_); rintro e w' ⟨rfl, rfl⟩)
  go_ret
  exact ⟨rfl, rfl⟩

def downC (x y : Int) : Int := cmpI y x
theorem downC_lt (x y : Int) : ltOf downC x y = decide (y < x) := by
  unfold ltOf downC; simp only [cmpI_neg]
theorem downC_swo : Go.Sort.SWO (ltOf downC) where
  irrefl x := by rw [downC_lt]; simp
  trans x y z h1 h2 := by rw [downC_lt] at *; simp at *; omega
  ntrans x y z h1 h2 := by rw [downC_lt] at *; simp at *; omega

/-- What the sort leaves of a slice that the call owns. -/
theorem own_sorted {w : World} {base E n g cap : Nat} {r : List Int} (s : List Int) (m : Nat) (os : Array Obj) (h : w.ownsRow base E 1 (.slice (some ⟨g, 0, none⟩) n cap) n (ints r)) (hs : s.length = n) :
    (sortWorld (Value.int .i64) w g 0 m s.toArray os).ownsRow base E 1 (.slice (some ⟨g, 0, none⟩) n cap) n (ints s) ∧ w.grownBy (sortWorld (Value.int .i64) w g 0 m s.toArray os) (some g) := by
  rcases h.2 with ⟨he, _⟩ | ⟨g', cap', cur, he, hbg, hg, hc, hm, hz, ht⟩
  · cases he
  cases he
  have hgl := (Array.getElem?_eq_some_iff.1 hg).1
  have hheap : (sortWorld (Value.int .i64) w g 0 m s.toArray os).heap = w.heap.modify g (Go.Sort.onCells (Go.Sort.putCells (Value.int .i64) 0 s.toArray)) ++ os := rfl
  have hsz : (w.heap.modify g (Go.Sort.onCells (Go.Sort.putCells (Value.int .i64) 0 s.toArray))).size = w.heap.size := Array.size_modify
  have hat : (sortWorld (Value.int .i64) w g 0 m s.toArray os).heap[g]? = some (.cells (Go.Sort.putCells (Value.int .i64) 0 s.toArray cur) E (0, 0)) := by
    rw [hheap, Array.getElem?_append_left (by rw [hsz]; exact hgl), Array.getElem?_modify, if_pos rfl, hg]; rfl
  refine ⟨⟨by rw [ints_len]; omega, .inr ⟨g, cap, _, rfl, hbg, hat, hc, hm, by rw [Go.Sort.putCells, Array.size_mapIdx]; exact hz, ?_⟩⟩, ⟨rfl, rfl, rfl, by rw [hheap, Array.size_append, hsz]; omega, fun k hk hne => ?_⟩⟩
  · apply List.ext_getElem
    · rw [List.length_take, Array.length_toList, Go.Sort.putCells, Array.size_mapIdx, ints_len]; omega
    · intro i h1 h2
      rw [ints_len] at h2
      have h3 := ints_at s i h2
      rw [List.getElem?_eq_getElem (by rw [ints_len]; exact h2)] at h3
      rw [Option.some.inj h3, List.getElem_take, Array.getElem_toList]
      simp only [Go.Sort.putCells, Array.getElem_mapIdx]
      rw [if_pos ⟨Nat.zero_le _, by simp; omega⟩]
      simp [h2]
  · rw [hheap, Array.getElem?_append_left (by rw [hsz]; exact hk), Array.getElem?_modify, if_neg (fun e => hne (by rw [e]))]

set_option maxHeartbeats 1000000 in
theorem sortFunc_any (base : Nat) (v : Value) (r : List Int) (w : World) (h : w.ownsRow base 3 1 v r.length (ints r)) (hr : r.length ≤ 2000000) (hb : base ≤ w.heap.size) :
    Calls Tryz.prog 117 #[v, .func (.func 114) #[] #[]] w fun e w' => e = .returned (.tuple #[]) ∧ w'.ownsRow base 3 1 v r.length (ints (sortD r)) ∧ Below base w w' := by
  by_cases h0 : r.length = 0
  · obtain rfl : r = [] := List.eq_nil_of_length_eq_zero h0
    obtain ⟨a, c, rfl⟩ := own_none h
    have hcon := AnyF.slices_SortFunc_none (P := Tryz.prog) (ρ := Tryz.sortI_ren) { Tryz.sortI with } a c (.func (.func 114) #[] #[]) w
    change Calls Tryz.prog 117 _ _ _ at hcon
    refine hcon.mono ?_
    rintro e w' ⟨rfl, rfl⟩
    exact ⟨rfl, by simpa [sortD] using h, Below.refl _ _⟩
  · obtain ⟨g, cap, rfl, hbg, hg, hc, hm, hcell, hfr⟩ := own_some h (by omega)
    have eg : ∀ args w, (callFunc 114 args).run Tryz.prog w = .ok (.enter 114 args) w := enters_of Tryz.func114 (by kernel_rfl) rfl
    have hcmp : CmpLays1 Tryz.prog 114 #[] (Value.int .i64) downC g 0 r.toArray.size w := fun m os dk _ x y =>
      (downCmp_any x y _).mono fun e w' ⟨he, hw⟩ => ⟨he, 0, #[], by rw [← hw, Go.Sort.grow_empty]; rfl⟩
    have hH : Go.Sort.Holds (Value.int .i64) w g 0 r.toArray := fun j hj => by
      have hj' : j < r.length := by simpa using hj
      rw [Nat.zero_add]
      exact ⟨by rw [hcell j hj', ints_at r j hj']; simp [hj'], hfr j⟩
    have hcon := Any.slices_SortFunc_total Tryz.sortI (Value.int .i64) (fun _ => rfl) downC downC_swo 114 #[] g 0 cap r.toArray w eg hcmp hH hg (by simp; omega)
      (fun x y h1 h2 => by rw [downC_lt] at h1 h2; simp at h1 h2; omega)
    change Calls Tryz.prog 117 _ _ _ at hcon
    rw [List.size_toArray] at hcon
    refine hcon.mono ?_
    rintro e w' ⟨rfl, m, os, rfl⟩
    have hs : (r.mergeSort fun x y => !ltOf downC y x) = sortD r := by
      rw [sortD]; congr 1; funext x y; rw [downC_lt]; by_cases hxy : x < y
      · rw [decide_eq_true hxy, decide_eq_false (by omega)]; rfl
      · rw [decide_eq_false hxy, decide_eq_true (by omega)]; rfl
    dsimp only
    rw [hs]
    obtain ⟨k1, k2⟩ := own_sorted (sortD r) m os h (sortD_len r)
    exact ⟨rfl, k1, (Below.refl _ _).grown k2 hb (fun k hk => by cases hk; exact hbg)⟩

theorem values_any (a : Option Addr) (n c : Nat) (w : World) :
    Calls Tryz.prog 113 #[.slice a n c] w fun e w' => e = .returned (.func (.func 118) #[] #[.pointer (some ⟨w.heap.size, 0, none⟩)]) ∧ w' = w.alloc (.cells #[.slice a n c] 23) := by
  go_enter Tryz.func113, Tryz.ntmps113
  go_wp2
  go_ret
  exact ⟨rfl, rfl⟩
set_option maxHeartbeats 400000 in
theorem sortedFunc_any (Bs : Nat) (v : Value) (r : List Int) (w : World) (hin : InRow w v r) (hr : r.length ≤ 2000000) (hB : Bs < w.heap.size) (hc : w.cell? ⟨Bs, 0, none⟩ = some v) :
    Calls Tryz.prog 112 #[.func (.func 118) #[] #[.pointer (some ⟨Bs, 0, none⟩)], .func (.func 114) #[] #[]] w (IntsRes (sortD r) w) := by
  have HX := hide (collectVals_any Bs v r w hin hr hB hc)
  clear hin hc
  go_enter Tryz.func112, Tryz.ntmps112
  go_wp2_with fail
  refine HX.out.mono ?_
  rintro e w1 ⟨u, rfl, ho, hb⟩
  have HS := hide (sortFunc_any w.heap.size u r w1 ho hr hb.size)
  have HB := hide hb
  clear ho hb
  go_wp2_with fail
  refine HS.out.mono ?_
  rintro e w2 ⟨rfl, ho, hb⟩
  have HO := hide ho; have HB2 := hide (HB.out.trans hb)
  clear ho hb
  go_wp2
  go_ret
  exact ⟨_, rfl, by rw [sortD_len]; exact HO.out, HB2.out⟩
set_option maxHeartbeats 400000 in
theorem implSortedDown_any (v : Value) (l : List Int) (w : World) (hin : InRow w v l) (hl : l.length ≤ 1048576) :
    Calls Tryz.prog 105 #[v] w (IntsRes (sortD l) w) := by
  have hb := (Below.refl w.heap.size w).alloc (Nat.le_refl _) (.cells #[v] 23)
  have HX := hide (sortedFunc_any w.heap.size v l _ (inRow_below hin hb) (by omega) (by simp) (show (w.alloc (.cells #[v] 23)).cell? ⟨w.heap.size, 0, none⟩ = some v by simp [World.cell?_alloc_new]))
  have HB := hide hb
  obtain ⟨a, c, rfl, -, -⟩ := hin
  clear hb
  go_enter Tryz.func105, Tryz.ntmps105
  go_wp2_with fail
  refine (values_any a _ c _).mono ?_
  rintro e w1 ⟨rfl, rfl⟩
  go_wp2_with fail
  refine HX.out.mono ?_
  rintro e w2 ⟨u, rfl, ho, hb⟩
  have HO := hide (own_base ho HB.out.size); have HB2 := hide (HB.out.trans (hb.mono HB.out.size))
  clear ho hb
  go_wp2
  go_ret
  exact ⟨_, rfl, HO.out, HB2.out⟩
end Go.Proofs.YtjnnoabaepmcnaaGreat
/-
  Worlds that have grown: some draws, some blocks laid behind.
-/
namespace Go.Proofs.YtjnnoabaepmcnaaGreat
open Go.RowKit

/-- After some draws, with some blocks laid behind. -/
def GrownW (w w' : World) : Prop := ∃ q os, w' = Go.Sort.grow (w.drewN q) os
theorem grownW_refl (w : World) : GrownW w w := ⟨0, #[], by rw [Go.Sort.grow_empty]; rfl⟩
theorem grownW_grow (w : World) (q : Nat) (os : Array Obj) : GrownW w (Go.Sort.grow (w.drewN q) os) := ⟨q, os, rfl⟩
theorem grownW_trans {a b c : World} (h : GrownW a b) (k : GrownW b c) : GrownW a c := by
  obtain ⟨q, os, rfl⟩ := h
  obtain ⟨p, os', rfl⟩ := k
  exact ⟨q + p, os ++ os', by show Go.Sort.grow (Go.Sort.grow ((a.drewN q).drewN p) os) os' = _; rw [Go.Sort.grow_grow, World.drewN_drewN]⟩
theorem grownW_alloc (w : World) (o : Obj) : GrownW w (w.alloc o) := ⟨0, #[o], by rw [Go.Sort.alloc_eq_grow]; rfl⟩
theorem grownW_below {w w' : World} (h : GrownW w w') : Below w.heap.size w w' := by
  obtain ⟨q, os, rfl⟩ := h
  refine ⟨rfl, rfl, rfl, ?_, fun k hk => ?_⟩
  · show w.heap.size ≤ (w.heap ++ os).size
    rw [Array.size_append]; omega
  · show (w.heap ++ os)[k]? = _
    rw [Array.getElem?_append_left hk]
theorem quiet_of {P : Program} {f : FuncId} {args : Array Value} {w : World} {n : Nat} {os : Array Obj} {v : Value} (h : Calls P f args (Go.Sort.grow (w.drewN n) os) fun e w' => e = .returned v ∧ GrownW (Go.Sort.grow (w.drewN n) os) w') :
    Calls P f args (Go.Sort.grow (w.drewN n) os) fun e w'' => e = .returned v ∧ ∃ p : GrownBy, w'' = Go.Sort.grow (w.drewN p.n) p.os := Calls.grown_of h
end Go.Proofs.YtjnnoabaepmcnaaGreat
/-
  The bounds of chapter 5: slack, isBroken, and the comparison by slack.
-/
namespace Go.Proofs.YtjnnoabaepmcnaaGreat
open Go.RowKit

/-- A bound in a variable. -/
def BoundAt (w : World) (g : Nat) (s m : Int) : Prop := w.heap[g]? = some (.cells #[.int .i64 s, .int .i64 m] 112 (0, 0))
theorem boundAt_below {w w' : World} {g : Nat} {s m : Int} (h : BoundAt w g s m) (hb : Below w.heap.size w w') : BoundAt w' g s m := by
  unfold BoundAt; rw [hb.block g (Array.getElem?_eq_some_iff.1 h).1]; exact h
theorem boundAt_cells {w : World} {g : Nat} {s m : Int} (h : BoundAt w g s m) : w.cell? ⟨g, 0, none⟩ = some (.int .i64 s) ∧ w.cell? ⟨g, 1, none⟩ = some (.int .i64 m) :=
  ⟨by rw [cell_of_row w g 0 _ _ _ h]; rfl, by rw [cell_of_row w g 1 _ _ _ h]; rfl⟩
theorem boundAt_frozen {w : World} {g : Nat} {s m : Int} (h : BoundAt w g s m) : w.frozen? ⟨g, 0, none⟩ = false ∧ w.frozen? ⟨g, 1, none⟩ = false := by
  unfold BoundAt at h
  simp [World.frozen?, h]
theorem Tryz.sizeBound : (Tryz.prog.info? 112).map (·.size) = some 2 := by kernel_rfl
theorem wpList_loadBound {ops : Array Oper} {rest : List Oper} {o : Oper} {a : Act} {Q : Exit → Act → World → Prop} {W : World} {g : Nat} {s m : Int} (hb : BoundAt W g s m)
    (hgd : o.guard = none) (x : Operand) (ho : o.op = .load 112 x) (hx : a.eval x = .pointer (some ⟨g, 0, none⟩))
    (h : wpList Tryz.prog ops Q rest (a.put o.dst (.agg #[.int .i64 s, .int .i64 m])) W) : wpList Tryz.prog ops Q (o :: rest) a W :=
  wpList_load_row hgd _ x ho g hx _ _ (0, 0) _ hb Tryz.underlying112 rfl Tryz.sizeBound h

set_option maxHeartbeats 400000 in
theorem slack_any (s m : Int) (w : World) (hs : 0 ≤ s ∧ s ≤ 25) (hm : 0 ≤ m ∧ m ≤ 25) :
    Calls Tryz.prog 108 #[.agg #[.int .i64 s, .int .i64 m]] w fun e w' => e = .returned (.int .i64 (m - s)) ∧ GrownW w w' := by
  obtain ⟨s1, s2⟩ := hs
  obtain ⟨m1, m2⟩ := hm
  go_enter Tryz.func108, Tryz.ntmps108
  go_wp2
  go_ret
  exact ⟨rfl, grownW_alloc _ _⟩
set_option maxHeartbeats 400000 in
theorem isBroken_any (s m : Int) (w : World) (hs : 0 ≤ s ∧ s ≤ 25) (hm : 0 ≤ m ∧ m ≤ 25) :
    Calls Tryz.prog 103 #[.agg #[.int .i64 s, .int .i64 m]] w fun e w' => e = .returned (.bool (decide (m - s < 0))) ∧ Below w.heap.size w w' := by
  have HG := hide (show BoundAt (w.alloc (.cells #[.int .i64 s, .int .i64 m] 112)) w.heap.size s m from heap_alloc_new w _)
  have HSL := hide fun w => slack_any s m w hs hm
  go_enter Tryz.func103, Tryz.ntmps103
  go_wp2_with (first | (with_reducible refine wpList_loadBound HG.out rfl _ rfl rfl ?_) | ((with_reducible refine (HSL.out _).mono ?_); rintro e w1 ⟨rfl, hg⟩; have HB := hide (grownW_below (grownW_trans (grownW_alloc _ _) hg)); clear hg))
  go_ret
  exact ⟨rfl, HB.out⟩
theorem load_bound {w : World} {g : Nat} {s m : Int} (h : BoundAt w g s m) (n : Nat) (os : Array Obj) : BoundAt (Go.Sort.grow (w.drewN n) os) g s m := boundAt_below h (grownW_below ⟨n, os, rfl⟩)
end Go.Proofs.YtjnnoabaepmcnaaGreat
/-
  boundsOf: the sums of the greatest columns, and the most that they can have.
-/
namespace Go.Proofs.YtjnnoabaepmcnaaGreat
open Go.RowKit

/-- The slice v reads as r, and lies in a block with room for it. -/
def RowAt (w : World) (v : Value) (r : List Int) : Prop :=
  ∃ g c, v = .slice (some ⟨g, 0, none⟩) r.length c ∧ r.length ≤ c ∧ c ≤ maxLen ∧ g < w.heap.size ∧ ∀ i, (h : i < r.length) → w.cell? ⟨g, i, none⟩ = some (.int .i64 r[i])
theorem rowAt_below {w w' : World} {v : Value} {r : List Int} (h : RowAt w v r) (hb : Below w.heap.size w w') : RowAt w' v r := by
  obtain ⟨g, c, hv, h1, h2, hg, hc⟩ := h
  exact ⟨g, c, hv, h1, h2, Nat.lt_of_lt_of_le hg hb.size, fun i hi => below_cell hb hg (hc i hi)⟩
theorem rowAt_own {w : World} {base : Nat} {v : Value} {r : List Int} (h : w.ownsRow base 3 1 v r.length (ints r)) (hn : 0 < r.length) : RowAt w v r := by
  obtain ⟨g, c, rfl, -, hg, h1, h2, hc, -⟩ := own_some h hn
  exact ⟨g, c, rfl, h1, h2, hg, fun i hi => by rw [hc i hi, ints_at r i hi]⟩
theorem rowAt_take {w : World} {g n c k : Nat} {r : List Int} (h : RowAt w (.slice (some ⟨g, 0, none⟩) n c) r) (hk : k ≤ r.length) : InRow w (.slice (some ⟨g, 0, none⟩) k c) (r.take k) := by
  obtain ⟨g', c', he, h1, h2, hg, hc⟩ := h
  cases he
  have hl : (r.take k).length = k := by rw [List.length_take]; omega
  refine ⟨_, c, by rw [hl], by omega, .inr ⟨g, 0, rfl, hg, fun i hi => ?_⟩⟩
  rw [Nat.zero_add, List.getElem_take]; exact hc i (by omega)
theorem small_take {r : List Int} (h : SmallL r) (k : Nat) : SmallL (r.take k) :=
  ⟨by have := h.1; rw [List.length_take]; omega, fun i hi => by rw [List.getElem_take]; exact h.2 i (by rw [List.length_take] at hi; omega)⟩
theorem small_sum {r : List Int} (h : SmallL r) (k : Nat) : 0 ≤ (r.take k).sum ∧ (r.take k).sum ≤ 25 := by
  have h1 := sum_small (small_take h k) _ (Nat.le_refl _)
  rw [List.take_length] at h1
  have h2 := (small_take h k).1
  omega

/-- Bounds lie one behind the other. -/
def InBounds (w : World) (v : Value) (bs : List (Int × Int)) : Prop :=
  ∃ g c, v = .slice (some ⟨g, 0, none⟩) bs.length c ∧ bs.length ≤ c ∧ g < w.heap.size ∧ ∀ i, (h : i < bs.length) → w.cell? ⟨g, i * 2, none⟩ = some (.int .i64 bs[i].1) ∧ w.cell? ⟨g, i * 2 + 1, none⟩ = some (.int .i64 bs[i].2)
theorem inBounds_below {w w' : World} {v : Value} {bs : List (Int × Int)} (h : InBounds w v bs) (hb : Below w.heap.size w w') : InBounds w' v bs := by
  obtain ⟨g, c, hv, hc1, hg, hc⟩ := h
  exact ⟨g, c, hv, hc1, Nat.lt_of_lt_of_le hg hb.size, fun i hi => ⟨below_cell hb hg (hc i hi).1, below_cell hb hg (hc i hi).2⟩⟩
theorem own_below2 {w w' : World} {base e n z : Nat} {v : Value} {xs : List Value} (h : w.ownsRow base e z v n xs) (hb : Below w.heap.size w w') : w'.ownsRow base e z v n xs := by
  refine ⟨h.1, ?_⟩
  rcases h.2 with hn | ⟨g, cap, cur, hv, hbg, hg, r⟩
  · exact .inl hn
  · exact .inr ⟨g, cap, cur, hv, hbg, by rw [hb.block g (Array.getElem?_eq_some_iff.1 hg).1]; exact hg, r⟩
theorem own2_cell {w : World} {base e n z g c j : Nat} {xs : List Value} (h : w.ownsRow base e z (.slice (some ⟨g, 0, none⟩) n c) n xs) (hj : j < n * z) : ∃ y, w.cell? ⟨g, j, none⟩ = some y := by
  have := h.1
  exact ⟨xs[j], by rw [h.cellAt j hj, List.getElem?_eq_getElem (by omega)]⟩
def tabB (n : Nat) (S C : List Int) : List (Int × Int) := (List.range n).map fun k => ((S.take (k + 1)).sum, (C.take (k + 1)).sum)
theorem tabB_len (n : Nat) (S C : List Int) : (tabB n S C).length = n := by simp [tabB]
theorem tabB_at {n : Nat} {S C : List Int} {i : Nat} (h : i < (tabB n S C).length) : (tabB n S C)[i] = ((S.take (i + 1)).sum, (C.take (i + 1)).sum) := by simp [tabB]

theorem exec_storeBound {ρ : Operand → Value} {o : Oper} {w : World} {x y : Operand} {p : Nat} {s m u v : Int} (ho : o.op = .store 112 x y) (hx : ρ x = .pointer (some ⟨p, 0, none⟩)) (hy : ρ y = .agg #[.int .i64 s, .int .i64 m])
    (h1 : w.cell? ⟨p, 0, none⟩ = some (.int .i64 u)) (h2 : w.cell? ⟨p, 1, none⟩ = some (.int .i64 v)) (f1 : w.frozen? ⟨p, 0, none⟩ = false) (f2 : w.frozen? ⟨p, 1, none⟩ = false) :
    (execOp ρ o).run Tryz.prog w = .ok .skip ((w.setCell ⟨p, 0, none⟩ (.int .i64 s)).setCell ⟨p, 1, none⟩ (.int .i64 m)) := by
  unfold execOp
  simp only [ho, hx, hy]
  go_simp

set_option maxRecDepth 100000 in
set_option maxHeartbeats 2000000 in
theorem boundAtK_any (S C : List Int) (v1 v2 : Value) (q1 q2 k : Nat) (w : World) (h1 : RowAt w v1 S) (h2 : RowAt w v2 C) (hq1 : q1 < w.heap.size) (hq2 : q2 < w.heap.size) (hc1 : w.cell? ⟨q1, 0, none⟩ = some v1) (hc2 : w.cell? ⟨q2, 0, none⟩ = some v2) (hs : SmallL S) (hs2 : SmallL C) (hk1 : k ≤ S.length) (hk2 : k ≤ C.length) :
    Calls Tryz.prog 107 #[.int .i64 k, .pointer (some ⟨q1, 0, none⟩), .pointer (some ⟨q2, 0, none⟩)] w fun e w' => e = .returned (.agg #[.int .i64 (S.take k).sum, .int .i64 (C.take k).sum]) ∧ Below w.heap.size w w' := by
  obtain ⟨W, hW⟩ : ∃ W, W = w.alloc (.cells #[.int .i64 0, .int .i64 0] 112) := ⟨_, rfl⟩
  have hb : Below w.heap.size w W := by rw [hW]; exact (Below.refl _ _).alloc (Nat.le_refl _) _
  have hr1 := rowAt_below h1 hb; have hr2 := rowAt_below h2 hb
  have hcw1 := below_cell hb hq1 hc1; have hcw2 := below_cell hb hq2 hc2
  have hba : BoundAt W w.heap.size 0 0 := by rw [hW]; exact heap_alloc_new w _
  obtain ⟨g1, c1, rfl, hl1, hm1, -, -⟩ := h1
  obtain ⟨g2, c2, rfl, hl2, hm2, -, -⟩ := h2
  unfold maxLen at hm1 hm2
  have HT1 := hide (inRow_below (rowAt_take hr1 hk1) (below_drew (Below.refl _ W))); have HT2 := hide (inRow_below (rowAt_take hr2 hk2) (below_drew (Below.refl _ W)))
  have HM1 := hide (small_take hs k); have HM2 := hide (small_take hs2 k)
  have HB := hide hb; have HW := hide hW; have HBA := hide hba
  obtain ⟨s, hs'⟩ : ∃ s, s = (S.take k).sum := ⟨_, rfl⟩
  obtain ⟨m, hm'⟩ : ∃ m, m = (C.take k).sum := ⟨_, rfl⟩
  have HSS := hide hs'; have HMM := hide hm'
  rw [← hs', ← hm']
  obtain ⟨n1, hn1⟩ : ∃ n, n = S.length := ⟨_, rfl⟩
  obtain ⟨n2, hn2⟩ : ∃ n, n = C.length := ⟨_, rfl⟩
  rw [← hn1] at hl1 hk1 hcw1
  rw [← hn2] at hl2 hk2 hcw2
  clear hW hb hr1 hr2 hc1 hc2 hba hs hs2 hs' hm' hn1 hn2
  go_enter Tryz.func107, Tryz.ntmps107
  go_wp2
  rw [← HW.out]
  obtain ⟨fs, hfs⟩ : ∃ fs : List FactP, fs = [isV (.slice (some ⟨g1, 0, none⟩) n1 c1), isV (.int .i64 k), isV (.slice (some ⟨g1, 0, none⟩) k c1), isV (.int .i64 s), isV (.slice (some ⟨g2, 0, none⟩) n2 c2), isV (.int .i64 k), isV (.slice (some ⟨g2, 0, none⟩) k c2), isV (.int .i64 m), isV (.agg #[.int .i64 s, .int .i64 m])] := ⟨_, rfl⟩
  have hst : ∀ f ∈ fs, StableP f := by
    rw [hfs]; intro f hf
    simp only [List.mem_cons, List.not_mem_nil, or_false] at hf
    rcases hf with rfl | rfl | rfl | rfl | rfl | rfl | rfl | rfl | rfl <;> exact stable_v _
  subst hfs
  refine wp_region_tail (S := fun w2 => w2 = W.drew) [isV (.slice (some ⟨g1, 0, none⟩) n1 c1), isV (.int .i64 k), isV (.slice (some ⟨g1, 0, none⟩) k c1), isV (.int .i64 s), isV (.slice (some ⟨g2, 0, none⟩) n2 c2), isV (.int .i64 k), isV (.slice (some ⟨g2, 0, none⟩) k c2), isV (.int .i64 m), isV (.agg #[.int .i64 s, .int .i64 m])] [(0, .int .i64 k), (1, .pointer (some ⟨q1, 0, none⟩)), (2, .pointer (some ⟨q2, 0, none⟩))] _ _ 9 (by kernel_rfl) rfl rfl (by kernel_rfl) (by kernel_rfl) rfl (by kernel_rfl) ?base rfl ?ob rfl ?fin
  case base =>
    intro t v ht
    simp only [List.lookup_cons, List.lookup_nil] at ht
    repeat' split at ht
    all_goals first | (cases ht; done) | (obtain rfl := Option.some.inj ht; rename_i hh; obtain rfl := eq_of_beq hh; rfl)
  case ob =>
    exact ⟨obt_one (.slice (some ⟨g1, 0, none⟩) n1 c1) rfl rfl (srt_b 1 rfl) (fun ρ w2 hS hx => by subst hS; go_simp),
      obt_move (.int .i64 k) rfl rfl rfl (srt_b 0 rfl),
      obt_two (.slice (some ⟨g1, 0, none⟩) k c1) rfl rfl (srt_j 0 rfl (by kernel_rfl) rfl) (srt_j 1 rfl (by kernel_rfl) rfl) (fun ρ w2 hS hx hy => by go_simp; omega),
      obt_call hst [.slice (some ⟨g1, 0, none⟩) k c1] rfl Tryz.func100 (by kernel_rfl) (by kernel_rfl) rfl ⟨(srt_j 2 rfl (by kernel_rfl) rfl), trivial⟩ (fun w2 hS => by subst hS; exact (totalOf_any _ _ _ HT1.out HM1.out).mono fun e w3 hh => ⟨_, hh.1, hh.2.symm, hh.2 ▸ Below.refl _ _, by rw [← HSS.out]; rfl⟩),
      obt_one (.slice (some ⟨g2, 0, none⟩) n2 c2) rfl rfl (srt_b 2 rfl) (fun ρ w2 hS hx => by subst hS; go_simp),
      obt_move (.int .i64 k) rfl rfl rfl (srt_b 0 rfl),
      obt_two (.slice (some ⟨g2, 0, none⟩) k c2) rfl rfl (srt_j 4 rfl (by kernel_rfl) rfl) (srt_j 5 rfl (by kernel_rfl) rfl) (fun ρ w2 hS hx hy => by go_simp; omega),
      obt_call hst [.slice (some ⟨g2, 0, none⟩) k c2] rfl Tryz.func100 (by kernel_rfl) (by kernel_rfl) rfl ⟨(srt_j 6 rfl (by kernel_rfl) rfl), trivial⟩ (fun w2 hS => by subst hS; exact (totalOf_any _ _ _ HT2.out HM2.out).mono fun e w3 hh => ⟨_, hh.1, hh.2.symm, hh.2 ▸ Below.refl _ _, by rw [← HMM.out]; rfl⟩),
      obt_two (.agg #[.int .i64 s, .int .i64 m]) rfl rfl (srt_j 3 rfl (by kernel_rfl) rfl) (srt_j 7 rfl (by kernel_rfl) rfl) (fun ρ w2 hS hx hy => by go_simp),
      trivial⟩
  case fin =>
    intro a' w' h1 h2 h3 hS h4 K hK
    subst hS
    have hcs := boundAt_cells HBA.out
    have hfz := boundAt_frozen HBA.out
    have v4 : a'.tmps.getD 4 undef = .pointer (some ⟨w.heap.size, 0, none⟩) := h3 4 (by kernel_rfl)
    have v13 : a'.tmps.getD 13 undef = .agg #[.int .i64 s, .int .i64 m] := h4 8 13 rfl (by decide)
    refine run_skip (exec_storeBound (s := s) (m := m) rfl v4 v13 hcs.1 hcs.2 hfz.1 hfz.2) (hK undef _ ?_)
    have ha : a' = ⟨List.toArray [.int .i64 k, .pointer (some ⟨q1, 0, none⟩), .pointer (some ⟨q2, 0, none⟩), undef, .pointer (some ⟨w.heap.size, 0, none⟩), .slice (some ⟨g1, 0, none⟩) n1 c1, .int .i64 k, .slice (some ⟨g1, 0, none⟩) k c1, .int .i64 s, .slice (some ⟨g2, 0, none⟩) n2 c2, .int .i64 k, .slice (some ⟨g2, 0, none⟩) k c2, .int .i64 m, .agg #[.int .i64 s, .int .i64 m]], []⟩ := frame_eq _ h1 h2 ⟨(h3 0 (by kernel_rfl)), (h3 1 (by kernel_rfl)), (h3 2 (by kernel_rfl)), (h3 3 (by kernel_rfl)), (h3 4 (by kernel_rfl)), (h4 0 5 rfl (by decide)), (h4 1 6 rfl (by decide)), (h4 2 7 rfl (by decide)), (h4 3 8 rfl (by decide)), (h4 4 9 rfl (by decide)), (h4 5 10 rfl (by decide)), (h4 6 11 rfl (by decide)), (h4 7 12 rfl (by decide)), (h4 8 13 rfl (by decide)), trivial⟩
    have hp : a'.put none undef = a' := rfl
    refine (congrArg (fun q => Exit.then _ _ Exit.normal q _) (hp.trans ha)).mpr ?_
    have d1 : ((W.drew.setCell ⟨w.heap.size, 0, none⟩ (.int .i64 s)).setCell ⟨w.heap.size, 1, none⟩ (.int .i64 m)).cell? ⟨w.heap.size, 0, none⟩ = some (.int .i64 s) := by
      rw [World.cell?_setCell_other _ _ _ _ (by simp)]; exact World.cell?_setCell_same' _ _ _ (by rw [show W.drew.cell? ⟨w.heap.size, 0, none⟩ = _ from hcs.1]; rfl)
    have d2 : ((W.drew.setCell ⟨w.heap.size, 0, none⟩ (.int .i64 s)).setCell ⟨w.heap.size, 1, none⟩ (.int .i64 m)).cell? ⟨w.heap.size, 1, none⟩ = some (.int .i64 m) := by
      exact World.cell?_setCell_same' _ _ _ (by rw [World.cell?_setCell_other _ _ _ _ (by simp), show W.drew.cell? ⟨w.heap.size, 1, none⟩ = _ from hcs.2]; rfl)
    have HBE := hide ((((below_drew HB.out).setCell (p := ⟨w.heap.size, 0, none⟩) (Nat.le_refl _) (.int .i64 s)).setCell (p := ⟨w.heap.size, 1, none⟩) (Nat.le_refl _) (.int .i64 m)))
    clear hst h1 h2 h3 h4 hK ha hp v4 v13 hcs hfz
    generalize (W.drew.setCell ⟨w.heap.size, 0, none⟩ (.int .i64 s)).setCell ⟨w.heap.size, 1, none⟩ (.int .i64 m) = w9 at d1 d2 HBE ⊢
    go_wp2
    exact bodyPost_ret (v := .agg #[.int .i64 s, .int .i64 m]) (by simp [results, Tryz.results107, go_sem, d1, d2]) rfl ⟨rfl, HBE.out⟩

theorem Tryz.infoBound : (Tryz.prog.info? 112).map (fun i => (i.zero, i.size, i.bytes)) = some (some (.agg #[.int .i64 0, .int .i64 0]), 2, 16) := by kernel_rfl
/-- The first k bounds are written. -/
def Filled (xs : List Value) (S C : List Int) (k : Nat) : Prop := ∀ i, i < k → xs[i * 2]? = some (.int .i64 (S.take (i + 1)).sum) ∧ xs[i * 2 + 1]? = some (.int .i64 (C.take (i + 1)).sum)
theorem filled_step {xs : List Value} {S C : List Int} {k n : Nat} (h : Filled xs S C k) (hl : xs.length = n * 2) (hk : k < n) {s m : Int} (hs : s = (S.take (k + 1)).sum) (hm : m = (C.take (k + 1)).sum) : Filled ((xs.set (k * 2) (.int .i64 s)).set (k * 2 + 1) (.int .i64 m)) S C (k + 1) := fun i hi => by
  by_cases e : i = k
  · subst e
    exact ⟨by rw [List.getElem?_set_ne (by omega), List.getElem?_set_self (by omega), hs], by rw [List.getElem?_set_self (by rw [List.length_set]; omega), hm]⟩
  · obtain ⟨h1, h2⟩ := h i (by omega)
    exact ⟨by rw [List.getElem?_set_ne (by omega), List.getElem?_set_ne (by omega)]; exact h1, by rw [List.getElem?_set_ne (by omega), List.getElem?_set_ne (by omega)]; exact h2⟩
def BoundsRes (bs : List (Int × Int)) (w : World) (e : Ending) (w' : World) : Prop := ∃ v, e = .returned v ∧ InBounds w' v bs ∧ Below w.heap.size w w'
set_option maxHeartbeats 2000000 in
theorem collectBound_any (S C : List Int) (v1 v2 : Value) (q1 q2 n : Nat) (w : World) (h1 : RowAt w v1 S) (h2 : RowAt w v2 C) (hq1 : q1 < w.heap.size) (hq2 : q2 < w.heap.size) (hc1 : w.cell? ⟨q1, 0, none⟩ = some v1) (hc2 : w.cell? ⟨q2, 0, none⟩ = some v2) (hs : SmallL S) (hs2 : SmallL C) (hS : S.length = n) (hC : C.length = n) (hn : n ≤ 5) :
    Calls Tryz.prog 106 #[.int .i64 n, .func (.func 107) #[] #[.pointer (some ⟨q1, 0, none⟩), .pointer (some ⟨q2, 0, none⟩)]] w (BoundsRes (tabB n S C) w) := by
  obtain ⟨i0, hi, hz0, hz1, hz2⟩ := info_parts Tryz.infoBound
  have HCALL := hide fun (w' : World) (k : Nat) (hb : Below w.heap.size w w') (hk : k ≤ n) => boundAtK_any S C v1 v2 q1 q2 k w' (rowAt_below h1 hb) (rowAt_below h2 hb) (Nat.lt_of_lt_of_le hq1 hb.size) (Nat.lt_of_lt_of_le hq2 hb.size) (below_cell hb hq1 hc1) (below_cell hb hq2 hc2) hs hs2 (by omega) (by omega)
  clear h1 h2 hq1 hq2 hc1 hc2 hs hs2 hS hC
  go_enter Tryz.func106, Tryz.ntmps106
  go_wp2_with (at_make; refine wpList_make_full _ rfl _ _ _ rfl w.heap.size 112 i0 _ 2 Tryz.underlying110 hi hz0 hz1 .i64 .i64 n n n rfl rfl rfl rfl (by rw [hz2]; omega) (by unfold maxLen; omega) (Nat.le_refl _) ?_; intro w1 ho hg)
  have HO : Hid (∃ xs, w1.ownsRow w.heap.size 112 2 (.slice (some ⟨w.heap.size, 0, none⟩) n n) n xs ∧ Filled xs S C 0) := hide ⟨_, ho, fun i hi => absurd hi (Nat.not_lt_zero _)⟩
  have HB := hide (grown_below hg (fun k hk => by cases hk) (Nat.le_refl w.heap.size))
  clear ho hg hz0 hz1 hz2 hi
  go_wp2
  go_loopw [10] (fun i w' => ∃ k : Nat, k ≤ n ∧ i = .int .i64 k ∧ (∃ xs, w'.ownsRow w.heap.size 112 2 (.slice (some ⟨w.heap.size, 0, none⟩) n n) n xs ∧ Filled xs S C k) ∧ Below w.heap.size w w') (fun i _ => n - (intOf i).toNat)
  case atStart => exact ⟨0, Nat.zero_le _, rfl, HO.out, HB.out⟩
  case round =>
    clear HO HB
    obtain ⟨k, hk, rfl, ⟨xs, ho, hf⟩, hb⟩ := hrel
    have HO := hide ho; have HF := hide hf; have HB := hide hb
    clear ho hf hb
    by_cases hlt : k < n
    · have HCK := hide (HCALL.out wr (k + 1) HB.out (by omega))
      obtain ⟨s, hs⟩ : ∃ s, s = (S.take (k + 1)).sum := ⟨_, rfl⟩
      obtain ⟨m, hm⟩ : ∃ m, m = (C.take (k + 1)).sum := ⟨_, rfl⟩
      rw [← hs, ← hm] at HCK
      have HFS := hide (filled_step HF.out HO.out.1 hlt hs hm)
      clear hs hm
      go_wp2_with (go_at_call 107; refine HCK.out.mono ?_; rintro e w9 ⟨rfl, hb9⟩; have HO9 := hide (own_below2 HO.out hb9); have HB9 := hide (HB.out.trans (hb9.mono HB.out.size)); clear hb9; obtain ⟨y1, hy1⟩ := own2_cell HO9.out (show k * 2 < n * 2 by omega); obtain ⟨y2, hy2⟩ := own2_cell HO9.out (show k * 2 + 1 < n * 2 by omega); have hf1 := HO9.out.frozenAt (k * 2); have hf2 := HO9.out.frozenAt (k * 2 + 1))
      go_roundw
      case rel => exact ⟨k + 1, by omega, by go_num, ⟨_, ((HO9.out.stored (k * 2) (.int .i64 s)).1.stored (k * 2 + 1) (.int .i64 m)).1, HFS.out⟩, (HB9.out.setCell (p := ⟨w.heap.size, k * 2, none⟩) (Nat.le_refl _) _).setCell (p := ⟨w.heap.size, k * 2 + 1, none⟩) (Nat.le_refl _) _⟩
      case measure => simp [intOf]; omega
    · obtain rfl : k = n := by omega
      go_wp2
      go_ret
      refine ⟨_, rfl, ⟨w.heap.size, k, by rw [tabB_len]; rfl, by rw [tabB_len]; exact Nat.le_refl _, (HO.out.lt _ rfl).2, fun i hi => ?_⟩, HB.out⟩
      rw [tabB_at hi]
      rw [tabB_len] at hi
      obtain ⟨f1, f2⟩ := HF.out i hi
      exact ⟨by rw [HO.out.cellAt _ (by omega)]; exact f1, by rw [HO.out.cellAt _ (by omega)]; exact f2⟩
end Go.Proofs.YtjnnoabaepmcnaaGreat
/-
  boundsOf.
-/
namespace Go.Proofs.YtjnnoabaepmcnaaGreat
open Go.RowKit

theorem sumsOk_yes {r c : List Int} (h : sumsOk r c = true) : (1 ≤ r.length ∧ r.length ≤ 5) ∧ (1 ≤ c.length ∧ c.length ≤ 5) ∧ r.any (badB c.length) = false ∧ c.any (badB r.length) = false ∧ r.sum = c.sum := by
  simp only [sumsOk, Bool.and_eq_true, Bool.not_eq_true', beq_iff_eq] at h
  obtain ⟨⟨⟨h1, h2⟩, h3⟩, h4⟩ := h
  have := sizeOk_yes h1
  exact ⟨by omega, by omega, h2, h3, h4⟩
theorem small_perm {s r : List Int} (hp : s.Perm r) (h : SmallL r) : SmallL s :=
  ⟨by rw [hp.length_eq]; exact h.1, fun i hi => by
    obtain ⟨j, hj, e⟩ := List.getElem_of_mem (hp.subset (List.getElem_mem hi))
    rw [← e]; exact h.2 j hj⟩
theorem small_conj {r : List Int} {n : Nat} (hr : r.length ≤ 5) (hn : n ≤ 5) : SmallL (conjL r n) :=
  ⟨by rw [conjL, tabL_len]; exact hn, fun i hi => by
    have h : (conjL r n)[i] = ((atLeast (i + 1) r : Nat) : Int) := tabL_at hi
    have := atLeast_le ((i : Int) + 1) r
    rw [h]; omega⟩
/-- The bounds of the sums r and c. -/
def boundsL (r c : List Int) : List (Int × Int) := tabB c.length (sortD c) (conjL r c.length)
set_option maxHeartbeats 2000000 in
theorem boundsOf_any (va vb : Value) (r c : List Int) (w : World) (ha : InRow w va r) (hb : InRow w vb c) (h : sumsOk r c = true) :
    Calls Tryz.prog 102 #[va, vb] w (BoundsRes (boundsL r c) w) := by
  obtain ⟨hr, hc, hrb, hcb, -⟩ := sumsOk_yes h
  have HA := hide ha; have HB := hide hb
  have HCJ := hide (conj_yes (l := r) hc hr.2 hrb)
  have HS1 := hide (small_perm (sortD_perm c) (small_of (m := r.length) hc.2 (by omega) hcb))
  have HS2 := hide (small_conj (n := c.length) hr.2 hc.2)
  have HL1 := hide (sortD_len c)
  have HL2 : Hid ((conjL r c.length).length = c.length) := hide (by rw [conjL, tabL_len])
  obtain ⟨b, cb, rfl, hmb, -⟩ := hb
  unfold maxLen at hmb
  have HC5 := hide hc
  obtain ⟨C, hC⟩ : ∃ C, C = c.length := ⟨_, rfl⟩
  have HC := hide hC
  rw [boundsL]
  rw [← hC] at HB HCJ HS2 HL1 HL2 HC5 hmb ⊢
  clear ha h hr hc hrb hcb hC
  go_enter Tryz.func102, Tryz.ntmps102
  go_wp2_with ((with_reducible refine (implConj_any va r (C : Int) _ HA.out).mono ?_); rw [HCJ.out]; rintro e w1 ⟨u1, rfl, ho, hb⟩; have HO1 := hide ho; have HB1 := hide hb; obtain ⟨ua, uc, rfl⟩ := own_slice ho; clear ho hb)
  have hbx := (Below.refl w1.heap.size w1).alloc (Nat.le_refl _) (.cells #[.slice ua (conjL r C).length uc] 23)
  have HX := hide (HB1.out.trans (hbx.mono HB1.out.size))
  have HR1 := hide (rowAt_below (rowAt_own HO1.out (by rw [HL2.out]; exact HC5.out.1)) hbx)
  have HP1 := hide (show (w1.alloc (.cells #[.slice ua (conjL r C).length uc] 23)).cell? ⟨w1.heap.size, 0, none⟩ = some (.slice ua (conjL r C).length uc) by simp [World.cell?_alloc_new])
  have HQ1 := hide (show w1.heap.size < (w1.alloc (.cells #[.slice ua (conjL r C).length uc] 23)).heap.size by simp)
  have HI2 := hide (inRow_below HB.out HX.out)
  clear hbx
  refine (implSortedDown_any _ c _ HI2.out (by have := HC5.out; have := HC.out; omega)).mono ?_
  generalize w1.alloc (.cells #[.slice ua (conjL r C).length uc] 23) = W1 at HX HR1 HP1 HQ1 HI2
  rintro e w2 ⟨u2, rfl, ho, hb⟩
  have HO2 := hide ho
  have HP2 := hide (below_cell hb HQ1.out HP1.out)
  have HR2 := hide (rowAt_below HR1.out hb)
  have HQ2 := hide (Nat.lt_of_lt_of_le HQ1.out hb.size)
  have HX2 := hide (HX.out.trans (hb.mono HX.out.size))
  obtain ⟨va2, uc2, rfl⟩ := own_slice ho
  clear ho hb HO1 HX HR1 HP1 HQ1 HI2
  go_wp2_with fail
  have hbx := (Below.refl w2.heap.size w2).alloc (Nat.le_refl _) (.cells #[.slice va2 (sortD c).length uc2] 23)
  have HX3 := hide (HX2.out.trans (hbx.mono HX2.out.size))
  have HS3 := hide (rowAt_below (rowAt_own HO2.out (by rw [HL1.out]; exact HC5.out.1)) hbx)
  have HP3 := hide (show (w2.alloc (.cells #[.slice va2 (sortD c).length uc2] 23)).cell? ⟨w2.heap.size, 0, none⟩ = some (.slice va2 (sortD c).length uc2) by simp [World.cell?_alloc_new])
  have HQ3 := hide (show w2.heap.size < (w2.alloc (.cells #[.slice va2 (sortD c).length uc2] 23)).heap.size by simp)
  have HR3 := hide (rowAt_below HR2.out hbx)
  have HP4 := hide (below_cell hbx HQ2.out HP2.out)
  have HQ4 := hide (Nat.lt_of_lt_of_le HQ2.out hbx.size)
  clear hbx HX2 HO2 HR2 HP2 HQ2
  generalize w2.alloc (.cells #[.slice va2 (sortD c).length uc2] 23) = W2 at HX3 HS3 HP3 HQ3 HR3 HP4 HQ4 ⊢
  refine (collectBound_any (sortD c) (conjL r C) _ _ w2.heap.size w1.heap.size C _ HS3.out HR3.out HQ3.out HQ4.out HP3.out HP4.out HS1.out HS2.out HL1.out HL2.out HC5.out.2).mono ?_
  rintro e w3 ⟨u3, rfl, hi, hb⟩
  have HI := hide hi; have HE := hide (HX3.out.trans (hb.mono HX3.out.size))
  clear hi hb
  go_wp2
  go_ret
  exact ⟨_, rfl, HI.out, HE.out⟩
end Go.Proofs.YtjnnoabaepmcnaaGreat
/-
  The first broken bound, and the least slack.
-/
namespace Go.Proofs.YtjnnoabaepmcnaaGreat
open Go.RowKit

/-- The place of the first broken bound, k the place of the first one; -1. -/
def firstB : List (Int × Int) → Int → Int
  | [], _ => -1
  | b :: l, k => if b.2 - b.1 < 0 then k else firstB l (k + 1)
theorem firstB_drop {bs : List (Int × Int)} {k : Nat} (h : k < bs.length) : firstB (bs.drop k) k = if bs[k].2 - bs[k].1 < 0 then (k : Int) else firstB (bs.drop (k + 1)) ((k + 1 : Nat) : Int) := by
  rw [List.drop_eq_getElem_cons h, firstB]; simp
/-- The least slack, a among them. -/
def minB : List (Int × Int) → Int → Int
  | [], a => a
  | b :: l, a => minB l (if b.2 - b.1 < a then b.2 - b.1 else a)
theorem minB_drop {bs : List (Int × Int)} {k : Nat} (h : k < bs.length) (a : Int) : minB (bs.drop k) a = minB (bs.drop (k + 1)) (if bs[k].2 - bs[k].1 < a then bs[k].2 - bs[k].1 else a) := by
  rw [List.drop_eq_getElem_cons h, minB]
/-- Sums of images. -/
def SmallB (bs : List (Int × Int)) : Prop := ∀ i, (h : i < bs.length) → (0 ≤ bs[i].1 ∧ bs[i].1 ≤ 25) ∧ 0 ≤ bs[i].2 ∧ bs[i].2 ≤ 25
theorem smallB_tab {S C : List Int} (n : Nat) (hs : SmallL S) (hc : SmallL C) : SmallB (tabB n S C) := fun i hi => by
  rw [tabB_at hi]; exact ⟨small_sum hs _, small_sum hc _⟩

set_option maxHeartbeats 1000000 in
theorem indexBroken_any (v : Value) (bs : List (Int × Int)) (w : World) (hin : InBounds w v bs) (hs : SmallB bs) (hn : bs.length ≤ 5) :
    Calls Tryz.prog 101 #[v, .func (.func 103) #[] #[]] w fun e w' => e = .returned (.int .i64 (firstB bs 0)) ∧ Below w.heap.size w w' := by
  obtain ⟨g, c, rfl, -, hg, hc⟩ := hin
  have HC := hide hc; have HS := hide hs
  obtain ⟨n, hnn⟩ : ∃ n, n = bs.length := ⟨_, rfl⟩
  have HN := hide hnn
  rw [← hnn] at hn ⊢
  clear hc hs hnn
  go_enter Tryz.func101, Tryz.ntmps101
  go_wp2
  go_loopw [8] (fun i wr => ∃ k : Nat, k ≤ n ∧ i = .int .i64 k ∧ firstB bs 0 = firstB (bs.drop k) k ∧ Below w.heap.size w wr) (fun i _ => n - (intOf i).toNat)
  case atStart => exact ⟨0, Nat.zero_le _, rfl, rfl, Below.refl _ _⟩
  case round =>
    obtain ⟨k, hk, rfl, hf, hb⟩ := hrel
    have HF := hide hf; have HB := hide hb
    clear hf hb
    by_cases hlt : k < n
    · have hk' : k < bs.length := by rw [← HN.out]; exact hlt
      obtain ⟨hc1, hc2⟩ := HC.out k hk'
      have hc1 := below_cell HB.out hg hc1
      have hc2 := below_cell HB.out hg hc2
      have HBR := hide fun w => isBroken_any bs[k].1 bs[k].2 w (HS.out k hk').1 (HS.out k hk').2
      have HD := hide (firstB_drop hk')
      obtain ⟨s, hs⟩ : ∃ s, s = bs[k].1 := ⟨_, rfl⟩
      obtain ⟨m, hm⟩ : ∃ m, m = bs[k].2 := ⟨_, rfl⟩
      rw [← hs] at hc1 HBR HD
      rw [← hm] at hc2 HBR HD
      clear hs hm
      by_cases hbr : m - s < 0
      · have HE := hide (decide_eq_true hbr)
        have HR : Hid (firstB bs 0 = k) := hide (by rw [HF.out, HD.out, if_pos hbr])
        clear hbr
        go_wp2_with (go_at_call 103; refine (HBR.out _).mono ?_; rw [HE.out]; rintro e w9 ⟨rfl, hb⟩; have HB9 := hide (HB.out.trans (hb.mono HB.out.size)); clear hb)
        go_ret
        exact ⟨ret_int HR.out.symm, HB9.out⟩
      · have HE := hide (decide_eq_false hbr)
        have HR : Hid (firstB bs 0 = firstB (bs.drop (k + 1)) ((k + 1 : Nat) : Int)) := hide (by rw [HF.out, HD.out, if_neg hbr])
        clear hbr
        go_wp2_with (go_at_call 103; refine (HBR.out _).mono ?_; rw [HE.out]; rintro e w9 ⟨rfl, hb⟩; have HB9 := hide (HB.out.trans (hb.mono HB.out.size)); clear hb)
        go_roundw
        case rel => exact ⟨k + 1, by omega, by go_num, HR.out, HB9.out⟩
        case measure => simp [intOf]; omega
    · have HR : Hid (firstB bs 0 = -1) := hide (by rw [HF.out, List.drop_of_length_le (by have := HN.out; omega)]; rfl)
      go_wp2
      go_ret
      exact ⟨ret_int HR.out.symm, HB.out⟩

theorem boundAt_set {w : World} {g : Nat} {s m : Int} (h : BoundAt w g s m) (s' m' : Int) : BoundAt ((w.setCell ⟨g, 0, none⟩ (.int .i64 s')).setCell ⟨g, 1, none⟩ (.int .i64 m')) g s' m' := by
  have h1 := heap_setCell_same w g 0 _ _ (.int .i64 s') h
  exact heap_setCell_same _ g 1 _ _ (.int .i64 m') h1
theorem boundAt_other {w : World} {g q : Nat} {s m : Int} (h : BoundAt w g s m) (hne : g ≠ q) (s' m' : Int) : BoundAt ((w.setCell ⟨q, 0, none⟩ (.int .i64 s')).setCell ⟨q, 1, none⟩ (.int .i64 m')) g s m := by
  unfold BoundAt
  rw [heap_setCell_other _ ⟨q, 1, none⟩ g _ (fun e => hne e), heap_setCell_other _ ⟨q, 0, none⟩ g _ (fun e => hne e)]; exact h
def MinRes (bs : List (Int × Int)) (a : Int) (w : World) (e : Ending) (w' : World) : Prop := ∃ s m : Int, e = .returned (.agg #[.int .i64 s, .int .i64 m]) ∧ ((0 ≤ s ∧ s ≤ 25) ∧ 0 ≤ m ∧ m ≤ 25) ∧ m - s = minB (bs.drop 1) a ∧ Below w.heap.size w w'
end Go.Proofs.YtjnnoabaepmcnaaGreat
/-
  WorstColumns, Exists, SlackOf of the program and of the model.
-/
namespace Go.Proofs.YtjnnoabaepmcnaaGreat
open Go.RowKit

theorem firstB_range : ∀ (l : List (Int × Int)) (k : Int), 0 ≤ k → -1 ≤ firstB l k ∧ firstB l k < k + l.length ∨ firstB l k = -1
  | [], _, _ => .inr rfl
  | b :: l, k, h => by
    rw [firstB]
    by_cases e : b.2 - b.1 < 0
    · rw [if_pos e]; left; rw [List.length_cons]; omega
    · rw [if_neg e]
      have := firstB_range l (k + 1) (by omega)
      rw [List.length_cons]; omega
theorem boundsL_len (r c : List Int) : (boundsL r c).length = c.length := by rw [boundsL, tabB_len]
theorem boundsL_small {r c : List Int} (h : sumsOk r c = true) : SmallB (boundsL r c) := by
  obtain ⟨hr, hc, -, hcb, -⟩ := sumsOk_yes h
  exact smallB_tab _ (small_perm (sortD_perm c) (small_of (m := r.length) hc.2 (by omega) hcb)) (small_conj hr.2 hc.2)
/-- What WorstColumns, Exists, SlackOf return. -/
def worstOf (r c : List Int) : Int := if sumsOk r c = true then firstB (boundsL r c) 0 + 1 else 0
def existsOf (r c : List Int) : Bool := sumsOk r c && decide (worstOf r c = 0)
def slack0 (bs : List (Int × Int)) : Int := minB (bs.drop 1) ((bs.headD (0, 0)).2 - (bs.headD (0, 0)).1)
def slackOf (r c : List Int) : Int := if existsOf r c = true then slack0 (boundsL r c) else -1
theorem slack0_at {bs : List (Int × Int)} (h : 0 < bs.length) : slack0 bs = minB (bs.drop 1) (bs[0].2 - bs[0].1) := by
  cases bs with
  | nil => exact absurd h (Nat.lt_irrefl 0)
  | cons b l => rfl

set_option maxHeartbeats 400000 in
theorem implWorst_any (va vb : Value) (r c : List Int) (w : World) (ha : InRow w va r) (hb : InRow w vb c) :
    Calls Tryz.prog 99 #[va, vb] w fun e w' => e = .returned (.int .i64 (worstOf r c)) ∧ Below w.heap.size w w' := by
  have HA := hide ha; have HB := hide hb
  clear ha hb
  cases h : sumsOk r c with
  | false =>
    rw [worstOf, if_neg (by rw [h]; decide)]
    have H := hide h
    clear h
    go_enter Tryz.func99, Tryz.ntmps99
    go_wp2_with ((with_reducible refine (implSumsOk_any va vb r c _ HA.out HB.out).mono ?_); rw [H.out]; rintro e w1 ⟨rfl, b1⟩; have B1 := hide b1; clear b1)
    go_ret
    exact ⟨rfl, B1.out⟩
  | true =>
    rw [worstOf, if_pos h]
    have H := hide h
    have HS := hide (boundsL_small h)
    have HL : Hid ((boundsL r c).length ≤ 5) := hide (by rw [boundsL_len]; exact (sumsOk_yes h).2.1.2)
    have hfr := firstB_range (boundsL r c) 0 (Int.le_refl 0)
    have hl := HL.out
    obtain ⟨F, hF⟩ : ∃ F, F = firstB (boundsL r c) 0 := ⟨_, rfl⟩
    have HF := hide hF
    rw [← hF] at hfr ⊢
    have hf1 : -1 ≤ F ∧ F ≤ 5 := by omega
    obtain ⟨hf1, hf2⟩ := hf1
    clear h hF hfr hl
    go_enter Tryz.func99, Tryz.ntmps99
    go_wp2_with (first | ((with_reducible refine (implSumsOk_any va vb r c _ HA.out HB.out).mono ?_); rw [H.out]; rintro e w1 ⟨rfl, b1⟩; have B1 := hide b1; clear b1) | ((with_reducible refine (boundsOf_any va vb r c _ (inRow_below HA.out B1.out) (inRow_below HB.out B1.out) H.out).mono ?_); rintro e w2 ⟨u, rfl, hi, b2⟩; have HI := hide hi; have B2 := hide (B1.out.trans (b2.mono B1.out.size)); clear hi b2) | ((with_reducible refine (indexBroken_any _ (boundsL r c) _ HI.out HS.out HL.out).mono ?_); rw [← HF.out]; rintro e w3 ⟨rfl, b3⟩; have B3 := hide (B2.out.trans (b3.mono B2.out.size)); clear b3))
    go_ret
    exact ⟨rfl, B3.out⟩
set_option maxHeartbeats 400000 in
theorem implExists_any (va vb : Value) (r c : List Int) (w : World) (ha : InRow w va r) (hb : InRow w vb c) :
    Calls Tryz.prog 92 #[va, vb] w fun e w' => e = .returned (.bool (existsOf r c)) ∧ Below w.heap.size w w' := by
  have HA := hide ha; have HB := hide hb
  clear ha hb
  cases h : sumsOk r c with
  | false =>
    rw [existsOf, h]
    have H := hide h
    clear h
    go_enter Tryz.func92, Tryz.ntmps92
    go_wp2_with ((with_reducible refine (implSumsOk_any va vb r c _ HA.out HB.out).mono ?_); rw [H.out]; rintro e w1 ⟨rfl, b1⟩; have B1 := hide b1; clear b1)
    go_ret
    exact ⟨rfl, B1.out⟩
  | true =>
    rw [existsOf, h]
    have H := hide h
    obtain ⟨F, hF⟩ : ∃ F, F = worstOf r c := ⟨_, rfl⟩
    have HF := hide hF
    rw [← hF]
    clear h hF
    go_enter Tryz.func92, Tryz.ntmps92
    go_wp2_with (first | ((with_reducible refine (implSumsOk_any va vb r c _ HA.out HB.out).mono ?_); rw [H.out]; rintro e w1 ⟨rfl, b1⟩; have B1 := hide b1; clear b1) | ((with_reducible refine (implWorst_any va vb r c _ (inRow_below HA.out B1.out) (inRow_below HB.out B1.out)).mono ?_); rw [← HF.out]; rintro e w2 ⟨rfl, b2⟩; have B2 := hide (B1.out.trans (b2.mono B1.out.size)); clear b2))
    go_ret
    exact ⟨ret_bool (by by_cases e : F = 0 <;> simp [e]), B2.out⟩
end Go.Proofs.YtjnnoabaepmcnaaGreat
