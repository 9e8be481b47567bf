/-
  The cursor of the laws that draw their arguments from a code: it answers bytes and numbers within bounds.
-/
import Derived.Test.YtcpcplggoogpeaaMem
import Derived.Laws.BitsLemmas
import Derived.Deep.RegionWith
import Derived.IntWalk
namespace Go.Proofs.Ytcpcplggoogpeaa
open Go.RowKit

theorem i64_and255 (n : Int) : bits .and .i64 n 255 = n % 256 := by
  have h127 : (BitVec.ofInt 64 255).toNat = 2 ^ 8 - 1 := by decide
  have key : (BitVec.ofInt 64 n &&& BitVec.ofInt 64 255).toNat = (n % ((2 ^ 64 : Nat) : Int)).toNat % 2 ^ 8 := by
    rw [BitVec.toNat_and, BitVec.toNat_ofInt, h127, Nat.and_two_pow_sub_one_eq_mod]
  show IntKind.i64.wrap ((BitVec.ofInt 64 n &&& BitVec.ofInt 64 255).toNat : Nat) = n % 256
  rw [key, IntKind.wrap_i64]
  omega
theorem i64_and30 (n : Int) : bits .and .i64 n 1073741823 = n % 1073741824 := by
  have h127 : (BitVec.ofInt 64 1073741823).toNat = 2 ^ 30 - 1 := by decide
  have key : (BitVec.ofInt 64 n &&& BitVec.ofInt 64 1073741823).toNat = (n % ((2 ^ 64 : Nat) : Int)).toNat % 2 ^ 30 := by
    rw [BitVec.toNat_and, BitVec.toNat_ofInt, h127, Nat.and_two_pow_sub_one_eq_mod]
  show IntKind.i64.wrap ((BitVec.ofInt 64 n &&& BitVec.ofInt 64 1073741823).toNat : Nat) = n % 1073741824
  rw [key, IntKind.wrap_i64]
  omega

/-- A slice of bytes that came in, from below block 'base': its cells read. -/
def InBytes (w : World) (base : Nat) (a : Option Addr) (n : Nat) : Prop :=
  n ≤ maxLen ∧ base ≤ w.heap.size ∧ (n = 0 ∨ ∃ (g o : Nat) (z : Nat → Int), a = some ⟨g, o, none⟩ ∧ g < base ∧ (∀ i, i < n → w.cell? ⟨g, o + i, none⟩ = some (.int .u8 (z i))) ∧ ∀ i, 0 ≤ z i ∧ z i ≤ 255)
theorem inBytes_nil (w : World) : InBytes w w.heap.size none 0 := ⟨Nat.zero_le _, Nat.le_refl _, .inl rfl⟩
theorem inBytes_of {w : World} {x : Addr} {l c : Nat} {zs : List Int} (hl : l ≤ c) (hm : c ≤ maxLen) (hz : zs.length = c) (hcell : ∀ i, i < zs.length → w.cell? (x.add i) = some (.int .u8 (zs.getD i 0)))
    (hwz : ∀ n ∈ zs, (Lit.int .u8 n).wf = true) : InBytes w w.heap.size (some x) l := by
  refine ⟨by omega, Nat.le_refl _, ?_⟩
  by_cases h0 : l = 0
  · exact .inl h0
  · refine .inr ?_
    obtain ⟨g, o, spot⟩ := x
    have hc := hcell 0 (by omega)
    have hspot : spot = none := by simpa [Addr.add] using World.cell?_spot hc
    subst hspot
    refine ⟨g, o, fun i => zs.getD i 0, rfl, ?_, fun i hi => ?_, fun i => ?_⟩
    · have := World.block_lt_of_cell? w _ hc
      simpa [Addr.add] using this
    · have := hcell i (by omega)
      rwa [addr_add] at this
    · by_cases hi : i < zs.length
      · have := hwz (zs.getD i 0) (by rw [List.getD_eq_getElem?_getD, List.getElem?_eq_getElem hi]; exact List.getElem_mem hi)
        have e1 : IntKind.u8.min = 0 := rfl
        have e2 : IntKind.u8.max = 255 := rfl
        simpa [Lit.wf, e1, e2] using this
      · show 0 ≤ zs.getD i 0 ∧ zs.getD i 0 ≤ 255
        rw [List.getD_eq_getElem?_getD, List.getElem?_eq_none (by omega)]; simp
theorem inBytes_grown {w w' : World} {a : Option Addr} {n B base : Nat} (h : InBytes w base a n) (hg : w.grownBy w' (some B)) (hB : base ≤ B) : InBytes w' base a n := by
  refine ⟨h.1, Nat.le_trans h.2.1 hg.size, ?_⟩
  rcases h.2.2 with h0 | ⟨g, o, z, ha, hlt, hc, hz⟩
  · exact .inl h0
  · refine .inr ⟨g, o, z, ha, hlt, fun i hi => ?_, hz⟩
    exact hg.cell (hc i hi) (by simp; omega)
theorem inBytes_below {w w' : World} {a : Option Addr} {n base : Nat} (h : InBytes w base a n) (hb : Below base w w') : InBytes w' base a n := by
  refine ⟨h.1, Nat.le_trans h.2.1 hb.size, ?_⟩
  rcases h.2.2 with h0 | ⟨g, o, z, ha, hlt, hc, hz⟩
  · exact .inl h0
  · exact .inr ⟨g, o, z, ha, hlt, fun i hi => by rw [hb.cell (p := ⟨g, o + i, none⟩) hlt]; exact hc i hi, hz⟩

/-- The cursor lies in block B. -/
def CurAt (w : World) (B : Nat) (a : Option Addr) (n : Nat) : Prop :=
  ∃ (c : Nat) (i h : Int), w.heap[B]? = some (.cells #[.slice a n c, .int .i64 i, .int .i64 h] 69 (0, 0)) ∧ 0 ≤ i ∧ i ≤ n
theorem cur_cells {w : World} {B : Nat} {x y z : Value} {T : TypeId} (h : w.heap[B]? = some (.cells #[x, y, z] T (0, 0))) :
    w.cell? ⟨B, 0, none⟩ = some x ∧ w.cell? ⟨B, 1, none⟩ = some y ∧ w.cell? ⟨B, 2, none⟩ = some z ∧ (∀ j, w.frozen? ⟨B, j, none⟩ = false) :=
  ⟨by rw [cell_of_row w B 0 _ _ _ h]; rfl, by rw [cell_of_row w B 1 _ _ _ h]; rfl, by rw [cell_of_row w B 2 _ _ _ h]; rfl, fun j => frozen_of_row w B j _ _ h⟩
theorem cur_set2 {w : World} {B : Nat} {x y z u : Value} {T : TypeId} (h : w.heap[B]? = some (.cells #[x, y, z] T (0, 0))) : (w.setCell ⟨B, 2, none⟩ u).heap[B]? = some (.cells #[x, y, u] T (0, 0)) := heap_setCell_same w B 2 _ _ _ h
theorem cur_set1 {w : World} {B : Nat} {x y z u : Value} {T : TypeId} (h : w.heap[B]? = some (.cells #[x, y, z] T (0, 0))) : (w.setCell ⟨B, 1, none⟩ u).heap[B]? = some (.cells #[x, u, z] T (0, 0)) := heap_setCell_same w B 1 _ _ _ h
theorem grown_set (w : World) (B o : Nat) (u : Value) : w.grownBy (w.setCell ⟨B, o, none⟩ u) (some B) :=
  ⟨rfl, rfl, rfl, by simp [World.setCell], fun k _ hk => heap_setCell_other w ⟨B, o, none⟩ k u (fun e => hk (by simp [e]))⟩
theorem grown_draws {w w' : World} {row : Option Nat} (h : w.grownBy w' row) (k : Nat) : w.grownBy (w'.drewN k) row := ⟨h.os, h.tape, h.output, h.size, h.block⟩
theorem grown_refl (w : World) (row : Option Nat) : w.grownBy w row := ⟨rfl, rfl, rfl, Nat.le_refl _, fun _ _ _ => rfl⟩

/-- What a draw of the cursor leaves: a number from 0 to 'top', the cursor in its place, nothing else touched. -/
def DrawRes (w : World) (B : Nat) (a : Option Addr) (n : Nat) (top : Int) (e : Ending) (w' : World) : Prop :=
  ∃ x : Int, 0 ≤ x ∧ x ≤ top ∧ e = .returned (.int .i64 x) ∧ CurAt w' B a n ∧ w.grownBy w' (some B)

set_option maxHeartbeats 400000 in
theorem l01Byte_any (B n : Nat) (a : Option Addr) (w : World) (base : Nat) (hc : CurAt w B a n) (hin : InBytes w base a n) (hbase : base ≤ B) :
    Calls Try.prog 70 #[.pointer (some ⟨B, 0, none⟩)] w (DrawRes w B a n 255) := by
  obtain ⟨c, i, h, hB, hi0, hin1⟩ := hc
  obtain ⟨h0, h1, h2, hf⟩ := cur_cells hB
  have f2 := hf 2
  have HB := hide hB; have HI := hide hin
  clear hf hB
  have hmax := hin.1
  unfold maxLen at hmax
  clear hin
  go_enter Try.func70, Try.ntmps70
  go_wp2
  generalize wrap64 (wrap64 (h * 6364136223846793005) + 1442695040888963407) = hh
  have hb1 := cur_set2 (u := .int .i64 hh) HB.out
  have hg1 := grown_set w B 2 (.int .i64 hh)
  have hin1' := inBytes_grown HI.out hg1 hbase
  generalize w.setCell ⟨B, 2, none⟩ (.int .i64 hh) = w1 at hb1 hg1 hin1' ⊢
  obtain ⟨e0, e1, e2, hf⟩ := cur_cells hb1
  have f1 := hf 1
  have HB1 := hide hb1; have HG1 := hide hg1; have HI1 := hide hin1'
  clear h0 h1 h2 f2 hf hb1 hg1 hin1' HB
  go_quiet (fail)
  rw [i64_and255]
  generalize bits BinOp.xor IntKind.i64 (hh / 8589934592) (hh / 35184372088832) = xx
  have hx0 : 0 ≤ xx % 256 := by omega
  have hx1 : xx % 256 ≤ 255 := by omega
  generalize xx % 256 = x at hx0 hx1 ⊢
  by_cases hlt : i < (n : Int)
  · obtain ⟨k, rfl⟩ : ∃ k : Nat, i = (k : Int) := ⟨i.toNat, by omega⟩
    rcases HI1.out.2.2 with hn0 | ⟨g, o, z, rfl, hg, hcell, hz⟩
    · omega
    · have hxc := hcell k (by omega)
      have hzk := hz k
      obtain ⟨hz0, hz1⟩ := hzk
      clear hcell hz
      go_wp2
      go_quiet (fail)
      go_wp2
      go_quiet (fail)
      rw [i64_and255]
      have hy0 : 0 ≤ (x + z k) % 256 := by omega
      have hy1 : (x + z k) % 256 ≤ 255 := by omega
      generalize (x + z k) % 256 = y at hy0 hy1 ⊢
      go_wp2
      go_ret
      exact ⟨y, hy0, hy1, rfl, ⟨c, _, hh, cur_set1 HB1.out, by omega, by omega⟩, grown_trans (grown_draws HG1.out _) (grown_set _ _ _ _)⟩
  · go_wp2
    go_quiet (fail)
    go_wp2
    go_ret
    exact ⟨x, hx0, hx1, rfl, ⟨c, i, hh, HB1.out, hi0, hin1⟩, grown_draws (grown_draws HG1.out _) _⟩

/-- What l01New leaves: a cursor in a new block. -/
def NewRes (w : World) (a : Option Addr) (n : Nat) (e : Ending) (w' : World) : Prop :=
  e = .returned (.pointer (some ⟨w.heap.size, 0, none⟩)) ∧ CurAt w' w.heap.size a n ∧ Below w.heap.size w w' ∧ w.heap.size < w'.heap.size

set_option maxRecDepth 100000 in
set_option maxHeartbeats 400000 in
theorem l01New_any (n c : Nat) (a : Option Addr) (w : World) (base : Nat) (hin : InBytes w base a n) (hn : n ≤ 2000000) :
    Calls Try.prog 69 #[.slice a n c] w (NewRes w a n) := by
  rcases hin.2.2 with h0 | ⟨g, o, z, rfl, hg, hcell, hz⟩
  · subst h0
    clear hin
    go_enter Try.func69, Try.ntmps69
    go_wp2
    go_loop [3, 4] (fun h i => ∃ x : Int, 0 ≤ x ∧ x ≤ 3000000 ∧ h = .int .i64 x ∧ i = .int .i64 0) (fun _ _ => 0)
    case atStart => exact ⟨2072, by omega, by omega, rfl, rfl⟩
    case round =>
      obtain ⟨x, hx0, hx1, rfl, rfl⟩ := hrel
      go_wp2
      go_ret
      exact ⟨rfl, ⟨c, 0, x, heap_alloc_new w _, by omega, by omega⟩, (Below.refl _ _).alloc (Nat.le_refl _) _, by simp⟩
  · have HI := hide hin; have HC := hide hcell; have HZ := hide hz
    clear hin hcell hz
    go_enter Try.func69, Try.ntmps69
    go_wp2
    go_loop [3, 4] (fun h i => ∃ (x : Int) (k : Nat), k ≤ n ∧ 0 ≤ x ∧ x ≤ 1073741824 ∧ h = .int .i64 x ∧ i = .int .i64 k) (fun _ i => n - (intOf i).toNat)
    case atStart => exact ⟨_, 0, Nat.zero_le _, by omega, by omega, rfl, rfl⟩
    case round =>
      obtain ⟨x, k, hk, hx0, hx1, rfl, rfl⟩ := hrel
      by_cases hlt : k < n
      · by_cases h4 : k < 4000
        · have hx := HC.out k hlt
          obtain ⟨hz0, hz1⟩ := HZ.out k
          have hb0 : 0 ≤ (x * 107 + z k + 7) % 1073741824 := by omega
          have hb1 : (x * 107 + z k + 7) % 1073741824 ≤ 1073741824 := by omega
          go_wp2
          go_round
          case rel => exact ⟨(x * 107 + z k + 7) % 1073741824, k + 1, by omega, hb0, hb1, by rw [i64_and30], by go_num⟩
          case measure => simp [intOf]; omega
        · go_wp2
          go_ret
          exact ⟨rfl, ⟨c, 0, x, heap_alloc_new w _, by omega, by omega⟩, (Below.refl _ _).alloc (Nat.le_refl _) _, by simp⟩
      · go_wp2
        go_ret
        exact ⟨rfl, ⟨c, 0, x, heap_alloc_new w _, by omega, by omega⟩, (Below.refl _ _).alloc (Nat.le_refl _) _, by simp⟩

/-- Behind a draw the cursor and the code are as good as before. -/
theorem below_drawn {W w w' : World} {B : Nat} (h : Below W.heap.size W w) (hg : w.grownBy w' (some B)) (hB : W.heap.size ≤ B) : Below W.heap.size W w' :=
  h.grown hg h.size fun k hk => by injection hk with hk; omega
set_option maxHeartbeats 400000 in
theorem l18New_any (n c : Nat) (a : Option Addr) (m : Nat) (w : World) (base : Nat) (hin : InBytes w base a n) (hn : n ≤ 2000000) (hm : m ≤ 1000) :
    Calls Try.prog 43 #[.slice a n c, .int .i64 m] w (NewRes w a n) := by
  have HI := hide hin
  clear hin
  go_enter Try.func43, Try.ntmps43
  go_wp2_with fail
  refine (l01New_any n c a _ base HI.out hn).mono ?_
  rintro e w1 ⟨rfl, hc, hb, hlt⟩
  have HC := hide hc; have HB := hide hb; have HL := hide hlt
  clear hc hb hlt
  go_wp2_with fail
  go_loopw [6] (fun i w' => ∃ k : Nat, k ≤ m ∧ i = .int .i64 k ∧ CurAt w' w.heap.size a n ∧ Below w.heap.size w w' ∧ w.heap.size < w'.heap.size) (fun i _ => m - (intOf i).toNat)
  case atStart => exact ⟨0, Nat.zero_le _, rfl, HC.out, HB.out, HL.out⟩
  case round =>
    clear HC HB HL
    obtain ⟨k, hk, rfl, hc, hb, hlt⟩ := hrel
    have HC := hide hc; have HB := hide hb; have HL := hide hlt
    clear hc hb hlt
    by_cases hkm : k < m
    · go_wp2_with (go_at_call 70; refine (l01Byte_any _ n a _ base HC.out (inBytes_below HI.out (HB.out.mono HI.out.2.1)) HI.out.2.1).mono ?_; rintro e w2 ⟨x, hx0, hx1, rfl, hc2, hg2⟩; replace hc2 := hide hc2; replace hg2 := hide hg2)
      go_roundw
      case rel => exact ⟨k + 1, by omega, by go_num, hc2.out, below_drawn HB.out hg2.out (Nat.le_refl _), Nat.lt_of_lt_of_le HL.out hg2.out.size⟩
      case measure => simp [intOf]; omega
    · go_wp2_with fail
      go_ret
      exact ⟨rfl, HC.out, HB.out, HL.out⟩

set_option maxHeartbeats 400000 in
theorem l01Below_any (B n : Nat) (a : Option Addr) (m : Int) (w : World) (base : Nat) (hm0 : 1 ≤ m) (hm1 : m ≤ 256) (hc : CurAt w B a n) (hin : InBytes w base a n) (hbase : base ≤ B) :
    Calls Try.prog 45 #[.pointer (some ⟨B, 0, none⟩), .int .i64 m] w (DrawRes w B a n (m - 1)) := by
  have HC := hide hc; have HI := hide hin
  clear hc hin
  go_enter Try.func45, Try.ntmps45
  go_wp2_with fail
  refine (l01Byte_any B n a _ base HC.out HI.out hbase).mono ?_
  rintro e w2 ⟨x, hx0, hx1, rfl, hc2, hg2⟩
  replace hc2 := hide hc2; replace hg2 := hide hg2
  have h0 : 0 ≤ x % m := Int.emod_nonneg _ (by omega)
  have h1 : x % m ≤ m - 1 := by have := Int.emod_lt_of_pos x (show 0 < m by omega); omega
  go_wp2
  go_ret
  exact ⟨x % m, h0, h1, rfl, hc2.out, hg2.out⟩

/-- Two draws in one statement, in whatever order. -/
def NumRes (w : World) (e : Ending) (w' : World) : Prop := ∃ x : Int, 0 ≤ x ∧ x ≤ 65535 ∧ e = .returned (.int .i64 x) ∧ Below w.heap.size w w'

end Go.Proofs.Ytcpcplggoogpeaa
