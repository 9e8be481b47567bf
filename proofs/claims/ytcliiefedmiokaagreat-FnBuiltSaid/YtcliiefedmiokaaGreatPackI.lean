/-
  Texts of this claim, one behind the other: Cur, EachM, Obk, BestP, Que, Bell.
-/
import Derived.Test.YtcliiefedmiokaaGreatPackA
import Derived.Laws.BitsLemmas
import Derived.Deep.RegionWith
import Derived.IntWalk
import Derived.Test.YtcliiefedmiokaaGreatPackB
import Derived.Test.YtcliiefedmiokaaGreatRows
import Derived.Test.YtcliiefedmiokaaGreatPackF
import Derived.ArgAppend
import Derived.Test.YtcliiefedmiokaaGreatPackE
/-
  The cursor of the laws that draw their arguments from a code: it answers bytes and numbers within bounds.
-/
namespace Go.Proofs.YtcliiefedmiokaaGreat
open Go.RowKit

theorem i64_and255 (n : Int) : bits .and .i64 n 255 = n % 256 := by
  have h127 : (BitVec.ofInt 64 255).toNat = 2 ^ 8 - 1 := by decide
  have key : (BitVec.ofInt 64 n &&& BitVec.ofInt 64 255).toNat = (n % ((2 ^ 64 : Nat) : Int)).toNat % 2 ^ 8 := by
    rw [BitVec.toNat_and, BitVec.toNat_ofInt, h127, Nat.and_two_pow_sub_one_eq_mod]
  show IntKind.i64.wrap ((BitVec.ofInt 64 n &&& BitVec.ofInt 64 255).toNat : Nat) = n % 256
  rw [key, IntKind.wrap_i64]
  omega
theorem i64_and30 (n : Int) : bits .and .i64 n 1073741823 = n % 1073741824 := by
  have h127 : (BitVec.ofInt 64 1073741823).toNat = 2 ^ 30 - 1 := by decide
  have key : (BitVec.ofInt 64 n &&& BitVec.ofInt 64 1073741823).toNat = (n % ((2 ^ 64 : Nat) : Int)).toNat % 2 ^ 30 := by
    rw [BitVec.toNat_and, BitVec.toNat_ofInt, h127, Nat.and_two_pow_sub_one_eq_mod]
  show IntKind.i64.wrap ((BitVec.ofInt 64 n &&& BitVec.ofInt 64 1073741823).toNat : Nat) = n % 1073741824
  rw [key, IntKind.wrap_i64]
  omega

/-- A slice of bytes that came in, from below block 'base': its cells read. -/
def InBytes (w : World) (base : Nat) (a : Option Addr) (n : Nat) : Prop :=
  n ≤ maxLen ∧ base ≤ w.heap.size ∧ (n = 0 ∨ ∃ (g o : Nat) (z : Nat → Int), a = some ⟨g, o, none⟩ ∧ g < base ∧ (∀ i, i < n → w.cell? ⟨g, o + i, none⟩ = some (.int .u8 (z i))) ∧ ∀ i, 0 ≤ z i ∧ z i ≤ 255)
theorem inBytes_nil (w : World) : InBytes w w.heap.size none 0 := ⟨Nat.zero_le _, Nat.le_refl _, .inl rfl⟩
theorem inBytes_of {w : World} {x : Addr} {l c : Nat} {zs : List Int} (hl : l ≤ c) (hm : c ≤ maxLen) (hz : zs.length = c) (hcell : ∀ i, i < zs.length → w.cell? (x.add i) = some (.int .u8 (zs.getD i 0)))
    (hwz : ∀ n ∈ zs, (Lit.int .u8 n).wf = true) : InBytes w w.heap.size (some x) l := by
  refine ⟨by omega, Nat.le_refl _, ?_⟩
  by_cases h0 : l = 0
  · exact .inl h0
  · refine .inr ?_
    obtain ⟨g, o, spot⟩ := x
    have hc := hcell 0 (by omega)
    have hspot : spot = none := by simpa [Addr.add] using World.cell?_spot hc
    subst hspot
    refine ⟨g, o, fun i => zs.getD i 0, rfl, ?_, fun i hi => ?_, fun i => ?_⟩
    · have := World.block_lt_of_cell? w _ hc
      simpa [Addr.add] using this
    · have := hcell i (by omega)
      rwa [addr_add] at this
    · by_cases hi : i < zs.length
      · have := hwz (zs.getD i 0) (by rw [List.getD_eq_getElem?_getD, List.getElem?_eq_getElem hi]; exact List.getElem_mem hi)
        have e1 : IntKind.u8.min = 0 := rfl
        have e2 : IntKind.u8.max = 255 := rfl
        simpa [Lit.wf, e1, e2] using this
      · show 0 ≤ zs.getD i 0 ∧ zs.getD i 0 ≤ 255
        rw [List.getD_eq_getElem?_getD, List.getElem?_eq_none (by omega)]; simp
theorem inBytes_grown {w w' : World} {a : Option Addr} {n B base : Nat} (h : InBytes w base a n) (hg : w.grownBy w' (some B)) (hB : base ≤ B) : InBytes w' base a n := by
  refine ⟨h.1, Nat.le_trans h.2.1 hg.size, ?_⟩
  rcases h.2.2 with h0 | ⟨g, o, z, ha, hlt, hc, hz⟩
  · exact .inl h0
  · refine .inr ⟨g, o, z, ha, hlt, fun i hi => ?_, hz⟩
    exact hg.cell (hc i hi) (by simp; omega)
theorem inBytes_below {w w' : World} {a : Option Addr} {n base : Nat} (h : InBytes w base a n) (hb : Below base w w') : InBytes w' base a n := by
  refine ⟨h.1, Nat.le_trans h.2.1 hb.size, ?_⟩
  rcases h.2.2 with h0 | ⟨g, o, z, ha, hlt, hc, hz⟩
  · exact .inl h0
  · exact .inr ⟨g, o, z, ha, hlt, fun i hi => by rw [hb.cell (p := ⟨g, o + i, none⟩) hlt]; exact hc i hi, hz⟩

/-- The cursor lies in block B. -/
def CurAt (w : World) (B : Nat) (a : Option Addr) (n : Nat) : Prop :=
  ∃ (c : Nat) (i h : Int), w.heap[B]? = some (.cells #[.slice a n c, .int .i64 i, .int .i64 h] 118 (0, 0)) ∧ 0 ≤ i ∧ i ≤ n
theorem cur_cells {w : World} {B : Nat} {x y z : Value} {T : TypeId} (h : w.heap[B]? = some (.cells #[x, y, z] T (0, 0))) :
    w.cell? ⟨B, 0, none⟩ = some x ∧ w.cell? ⟨B, 1, none⟩ = some y ∧ w.cell? ⟨B, 2, none⟩ = some z ∧ (∀ j, w.frozen? ⟨B, j, none⟩ = false) :=
  ⟨by rw [cell_of_row w B 0 _ _ _ h]; rfl, by rw [cell_of_row w B 1 _ _ _ h]; rfl, by rw [cell_of_row w B 2 _ _ _ h]; rfl, fun j => frozen_of_row w B j _ _ h⟩
theorem cur_set2 {w : World} {B : Nat} {x y z u : Value} {T : TypeId} (h : w.heap[B]? = some (.cells #[x, y, z] T (0, 0))) : (w.setCell ⟨B, 2, none⟩ u).heap[B]? = some (.cells #[x, y, u] T (0, 0)) := heap_setCell_same w B 2 _ _ _ h
theorem cur_set1 {w : World} {B : Nat} {x y z u : Value} {T : TypeId} (h : w.heap[B]? = some (.cells #[x, y, z] T (0, 0))) : (w.setCell ⟨B, 1, none⟩ u).heap[B]? = some (.cells #[x, u, z] T (0, 0)) := heap_setCell_same w B 1 _ _ _ h
theorem grown_set (w : World) (B o : Nat) (u : Value) : w.grownBy (w.setCell ⟨B, o, none⟩ u) (some B) :=
  ⟨rfl, rfl, rfl, by simp [World.setCell], fun k _ hk => heap_setCell_other w ⟨B, o, none⟩ k u (fun e => hk (by simp [e]))⟩
theorem grown_draws {w w' : World} {row : Option Nat} (h : w.grownBy w' row) (k : Nat) : w.grownBy (w'.drewN k) row := ⟨h.os, h.tape, h.output, h.size, h.block⟩
theorem grown_refl (w : World) (row : Option Nat) : w.grownBy w row := ⟨rfl, rfl, rfl, Nat.le_refl _, fun _ _ _ => rfl⟩

/-- What a draw of the cursor leaves: a number from 0 to 'top', the cursor in its place, nothing else touched. -/
def DrawRes (w : World) (B : Nat) (a : Option Addr) (n : Nat) (top : Int) (e : Ending) (w' : World) : Prop :=
  ∃ x : Int, 0 ≤ x ∧ x ≤ top ∧ e = .returned (.int .i64 x) ∧ CurAt w' B a n ∧ w.grownBy w' (some B)

set_option maxHeartbeats 400000 in
theorem l01Byte_any (B n : Nat) (a : Option Addr) (w : World) (base : Nat) (hc : CurAt w B a n) (hin : InBytes w base a n) (hbase : base ≤ B) :
    Calls Tryz.prog 55 #[.pointer (some ⟨B, 0, none⟩)] w (DrawRes w B a n 255) := by
  obtain ⟨c, i, h, hB, hi0, hin1⟩ := hc
  obtain ⟨h0, h1, h2, hf⟩ := cur_cells hB
  have f2 := hf 2
  have HB := hide hB; have HI := hide hin
  clear hf hB
  have hmax := hin.1
  unfold maxLen at hmax
  clear hin
  go_enter Tryz.func55, Tryz.ntmps55
  go_wp2
  generalize wrap64 (wrap64 (h * 6364136223846793005) + 1442695040888963407) = hh
  have hb1 := cur_set2 (u := .int .i64 hh) HB.out
  have hg1 := grown_set w B 2 (.int .i64 hh)
  have hin1' := inBytes_grown HI.out hg1 hbase
  generalize w.setCell ⟨B, 2, none⟩ (.int .i64 hh) = w1 at hb1 hg1 hin1' ⊢
  obtain ⟨e0, e1, e2, hf⟩ := cur_cells hb1
  have f1 := hf 1
  have HB1 := hide hb1; have HG1 := hide hg1; have HI1 := hide hin1'
  clear h0 h1 h2 f2 hf hb1 hg1 hin1' HB
  go_quiet (fail)
  rw [i64_and255]
  generalize bits BinOp.xor IntKind.i64 (hh / 8589934592) (hh / 35184372088832) = xx
  have hx0 : 0 ≤ xx % 256 := by omega
  have hx1 : xx % 256 ≤ 255 := by omega
  generalize xx % 256 = x at hx0 hx1 ⊢
  by_cases hlt : i < (n : Int)
  · obtain ⟨k, rfl⟩ : ∃ k : Nat, i = (k : Int) := ⟨i.toNat, by omega⟩
    rcases HI1.out.2.2 with hn0 | ⟨g, o, z, rfl, hg, hcell, hz⟩
    · omega
    · have hxc := hcell k (by omega)
      have hzk := hz k
      obtain ⟨hz0, hz1⟩ := hzk
      clear hcell hz
      go_wp2
      go_quiet (fail)
      go_wp2
      go_quiet (fail)
      rw [i64_and255]
      have hy0 : 0 ≤ (x + z k) % 256 := by omega
      have hy1 : (x + z k) % 256 ≤ 255 := by omega
      generalize (x + z k) % 256 = y at hy0 hy1 ⊢
      go_wp2
      go_ret
      exact ⟨y, hy0, hy1, rfl, ⟨c, _, hh, cur_set1 HB1.out, by omega, by omega⟩, grown_trans (grown_draws HG1.out _) (grown_set _ _ _ _)⟩
  · go_wp2
    go_quiet (fail)
    go_wp2
    go_ret
    exact ⟨x, hx0, hx1, rfl, ⟨c, i, hh, HB1.out, hi0, hin1⟩, grown_draws (grown_draws HG1.out _) _⟩

/-- What l01New leaves: a cursor in a new block. -/
def NewRes (w : World) (a : Option Addr) (n : Nat) (e : Ending) (w' : World) : Prop :=
  e = .returned (.pointer (some ⟨w.heap.size, 0, none⟩)) ∧ CurAt w' w.heap.size a n ∧ Below w.heap.size w w' ∧ w.heap.size < w'.heap.size

set_option maxRecDepth 100000 in
set_option maxHeartbeats 400000 in
theorem l01New_big (n c : Nat) (a : Option Addr) (w : World) (base : Nat) (hin : InBytes w base a n) :
    Calls Tryz.prog 60 #[.slice a n c] w (NewRes w a n) := by
  have hn : n ≤ 9223372036854775807 := by have := hin.1; unfold maxLen at this; omega
  rcases hin.2.2 with h0 | ⟨g, o, z, rfl, hg, hcell, hz⟩
  · subst h0
    clear hin
    go_enter Tryz.func60, Tryz.ntmps60
    go_wp2
    go_loop [3, 4] (fun h i => ∃ x : Int, h = .int .i64 x ∧ i = .int .i64 0) (fun _ _ => 0)
    case atStart => exact ⟨_, rfl, rfl⟩
    case round =>
      obtain ⟨x, rfl, rfl⟩ := hrel
      go_wp2
      go_ret
      exact ⟨rfl, ⟨c, 0, x, heap_alloc_new w _, by omega, by omega⟩, (Below.refl _ _).alloc (Nat.le_refl _) _, by simp⟩
  · have HI := hide hin; have HC := hide hcell; have HZ := hide hz
    clear hin hcell hz
    go_enter Tryz.func60, Tryz.ntmps60
    go_wp2
    go_loop [3, 4] (fun h i => ∃ (x : Int) (k : Nat), k ≤ n ∧ k ≤ 4000 ∧ h = .int .i64 x ∧ i = .int .i64 k) (fun _ i => 4000 - (intOf i).toNat)
    case atStart => exact ⟨_, 0, Nat.zero_le _, Nat.zero_le _, rfl, rfl⟩
    case round =>
      obtain ⟨x, k, hk, hk4, rfl, rfl⟩ := hrel
      by_cases hlt : k < n
      · by_cases h4 : k < 4000
        · have hx := HC.out k hlt
          have h4I : (k : Int) < 4000 := by omega
          have hltI : (k : Int) < n := by omega
          go_wp2
          go_round
          case rel => exact ⟨_, k + 1, by omega, by omega, rfl, by go_num⟩
          case measure => simp [intOf]; omega
        · go_wp2
          go_ret
          exact ⟨rfl, ⟨c, 0, x, heap_alloc_new w _, by omega, by omega⟩, (Below.refl _ _).alloc (Nat.le_refl _) _, by simp⟩
      · go_wp2
        go_ret
        exact ⟨rfl, ⟨c, 0, x, heap_alloc_new w _, by omega, by omega⟩, (Below.refl _ _).alloc (Nat.le_refl _) _, by simp⟩
theorem l01New_any (n c : Nat) (a : Option Addr) (w : World) (base : Nat) (hin : InBytes w base a n) (_hn : n ≤ 2000000) :
    Calls Tryz.prog 60 #[.slice a n c] w (NewRes w a n) := l01New_big n c a w base hin
/-- Behind a draw the cursor and the code are as good as before. -/
theorem below_drawn {W w w' : World} {B : Nat} (h : Below W.heap.size W w) (hg : w.grownBy w' (some B)) (hB : W.heap.size ≤ B) : Below W.heap.size W w' :=
  h.grown hg h.size fun k hk => by injection hk with hk; omega
set_option maxHeartbeats 400000 in
theorem l18New_any (n c : Nat) (a : Option Addr) (m : Nat) (w : World) (base : Nat) (hin : InBytes w base a n) (hn : n ≤ 2000000) (hm : m ≤ 1000) :
    Calls Tryz.prog 42 #[.slice a n c, .int .i64 m] w (NewRes w a n) := by
  have HI := hide hin
  clear hin
  go_enter Tryz.func42, Tryz.ntmps42
  go_wp2_with fail
  refine (l01New_any n c a _ base HI.out hn).mono ?_
  rintro e w1 ⟨rfl, hc, hb, hlt⟩
  have HC := hide hc; have HB := hide hb; have HL := hide hlt
  clear hc hb hlt
  go_wp2_with fail
  go_loopw [6] (fun i w' => ∃ k : Nat, k ≤ m ∧ i = .int .i64 k ∧ CurAt w' w.heap.size a n ∧ Below w.heap.size w w' ∧ w.heap.size < w'.heap.size) (fun i _ => m - (intOf i).toNat)
  case atStart => exact ⟨0, Nat.zero_le _, rfl, HC.out, HB.out, HL.out⟩
  case round =>
    clear HC HB HL
    obtain ⟨k, hk, rfl, hc, hb, hlt⟩ := hrel
    have HC := hide hc; have HB := hide hb; have HL := hide hlt
    clear hc hb hlt
    by_cases hkm : k < m
    · go_wp2_with (go_at_call 55; refine (l01Byte_any _ n a _ base HC.out (inBytes_below HI.out (HB.out.mono HI.out.2.1)) HI.out.2.1).mono ?_; rintro e w2 ⟨x, hx0, hx1, rfl, hc2, hg2⟩; replace hc2 := hide hc2; replace hg2 := hide hg2)
      go_roundw
      case rel => exact ⟨k + 1, by omega, by go_num, hc2.out, below_drawn HB.out hg2.out (Nat.le_refl _), Nat.lt_of_lt_of_le HL.out hg2.out.size⟩
      case measure => simp [intOf]; omega
    · go_wp2_with fail
      go_ret
      exact ⟨rfl, HC.out, HB.out, HL.out⟩

set_option maxHeartbeats 400000 in
theorem l01Below_any (B n : Nat) (a : Option Addr) (m : Int) (w : World) (base : Nat) (hm0 : 1 ≤ m) (hm1 : m ≤ 256) (hc : CurAt w B a n) (hin : InBytes w base a n) (hbase : base ≤ B) :
    Calls Tryz.prog 62 #[.pointer (some ⟨B, 0, none⟩), .int .i64 m] w (DrawRes w B a n (m - 1)) := by
  have HC := hide hc; have HI := hide hin
  clear hc hin
  go_enter Tryz.func62, Tryz.ntmps62
  go_wp2_with fail
  refine (l01Byte_any B n a _ base HC.out HI.out hbase).mono ?_
  rintro e w2 ⟨x, hx0, hx1, rfl, hc2, hg2⟩
  replace hc2 := hide hc2; replace hg2 := hide hg2
  have h0 : 0 ≤ x % m := Int.emod_nonneg _ (by omega)
  have h1 : x % m ≤ m - 1 := by have := Int.emod_lt_of_pos x (show 0 < m by omega); omega
  go_wp2
  go_ret
  exact ⟨x % m, h0, h1, rfl, hc2.out, hg2.out⟩

/-- Two draws in one statement, in whatever order. -/
def NumRes (w : World) (e : Ending) (w' : World) : Prop := ∃ x : Int, 0 ≤ x ∧ x ≤ 65535 ∧ e = .returned (.int .i64 x) ∧ Below w.heap.size w w'

set_option maxHeartbeats 400000 in
theorem makeNum_any (n c : Nat) (a : Option Addr) (m : Nat) (w : World) (base : Nat) (hin : InBytes w base a n) (hn : n ≤ 2000000) (hm : m ≤ 1000) :
    Calls Tryz.prog 19 #[.slice a n c, .int .i64 m] w (NumRes w) := by
  have HI := hide hin
  clear hin
  go_enter Tryz.func19, Tryz.ntmps19
  go_wp2_with fail
  refine (l18New_any n c a m _ base HI.out hn hm).mono ?_
  rintro e w1 ⟨rfl, hc, hb, hlt⟩
  have HC := hide hc; have HB := hide hb
  clear hc hb hlt
  go_wp2_with fail
  refine (l01Byte_any _ n a _ base HC.out (inBytes_below HI.out (HB.out.mono HI.out.2.1)) HI.out.2.1).mono ?_
  rintro e w2 ⟨x, hx0, hx1, rfl, hc2, hg2⟩
  replace hc2 := hide hc2
  have HB2 := hide (below_drawn HB.out hg2 (Nat.le_refl _))
  clear hg2
  go_wp2_with fail
  refine (l01Byte_any _ n a _ base hc2.out (inBytes_below HI.out (HB2.out.mono HI.out.2.1)) HI.out.2.1).mono ?_
  rintro e w3 ⟨y, hy0, hy1, rfl, hc3, hg3⟩
  have HB3 := hide (below_drawn HB2.out hg3 (Nat.le_refl _))
  clear hg3 hc3
  go_wp2
  go_ret
  exact ⟨x * 256 + y, by omega, by omega, rfl, HB3.out⟩
end Go.Proofs.YtcliiefedmiokaaGreat
/-
  A region that draws its order, of one long sum of tests: what each slot holds.
-/
namespace Go.Proofs.YtcliiefedmiokaaGreat
open Go.RowKit

/-- What a slot holds: a value, or a list of lists that reads. -/
inductive Fact where
  | val (v : Value)
  | mat (m : List (List Int))
  | row (r : List Int)
def Fact.holds : Fact → Value → World → Prop
  | .val v, u, _ => u = v
  | .mat m, u, w => InMat w u m
  | .row r, u, w => InRow w u r
theorem fact_below (f : Fact) {u : Value} {w w' : World} (h : f.holds u w) (hb : Below w.heap.size w w') : f.holds u w' := by
  cases f with
  | val v => exact h
  | mat m => exact inMat_below h hb
  | row r => exact inRow_below h hb
def factAt (fs : List Fact) (i : Nat) : Fact := fs.getD i (.val undef)

def AllEach (ob : Nat → Oper → Prop) : Nat → List Oper → Prop
  | _, [] => True
  | k, o :: r => ob k o ∧ AllEach ob (k + 1) r
theorem allEach_at {ob : Nat → Oper → Prop} : ∀ (l : List Oper) (k : Nat), AllEach ob k l → ∀ (i : Nat) (o : Oper), l[i]? = some o → ob (k + i) o
  | [], _, _, i, o, h => by simp at h
  | x :: r, k, hl, i, o, h => by
    cases i with
    | zero => simp only [List.getElem?_cons_zero, Option.some.injEq] at h; subst h; exact hl.1
    | succ i =>
      simp only [List.getElem?_cons_succ] at h
      have := allEach_at r (k + 1) hl.2 i o h
      rwa [show k + 1 + i = k + (i + 1) by omega] at this

/-- What is asked of one operation, its forerunners' slots named. -/
def Ob (P : Program) (Q : Exit → Act → World → Prop) (base : List (Tmp × Value)) (dsts : List (Option Tmp)) (S : World → Prop) (fs : List Fact) (i : Nat) (o : Oper) : Prop :=
  ∀ (a : Act) (w : World), S w → (∀ t v, base.lookup t = some v → a.tmps.getD t undef = v) →
    (∀ j d, dsts[j]? = some (some d) → o.after.any (fun e => e.on == j && Region.binds .any e) = true → (factAt fs j).holds (a.tmps.getD d undef) w) →
    ∀ K : Act → World → Prop, (∀ v w', S w' → Below w.heap.size w w' → (factAt fs i).holds v w' → K (a.put o.dst v) w') →
      (o.guard = none ∨ ∃ j d, o.guard = some (j, true) ∧ dsts[j]? = some (some d) ∧ a.tmps.getD d undef = .bool true) ∧ o.wp P a w K Q

theorem wp_region_obs {P : Program} {ops : Array Oper} {Q : Exit → Act → World → Prop} {id : Nat} {a : Act} {w : World} {S : World → Prop} (fs : List Fact) (base : List (Tmp × Value)) (dsts : List (Option Tmp))
    (hm : P.follows .mixedOrders = true) (ho : orderly .any a.tmps.size 0 [] ops.toList = true) (hd : ops.toList.map (·.dst) = dsts)
    (hbo : base.all (fun p => outside ops p.1) = true) (hb : ∀ t v, base.lookup t = some v → a.tmps.getD t undef = v)
    (hS : S w.drew) (hob : AllEach (Ob P Q base dsts S fs) 0 ops.toList)
    (hend : ∀ (a' : Act) (w' : World), a'.tmps.size = a.tmps.size → a'.defers = a.defers → S w' → (∀ j d, dsts[j]? = some (some d) → (factAt fs j).holds (a'.tmps.getD d undef) w') → Q .normal a' w') :
    (Code.region id ops true).wp P Q a w := by
  have hdst : ∀ (j : Nat) (o : Oper) (d : Tmp), ops[j]? = some o → o.dst = some d → dsts[j]? = some (some d) := fun j o d hj hdo => by
    rw [← hd, List.getElem?_map]; simp [hj, hdo]
  have hdst' : ∀ (j : Nat) (d : Tmp), dsts[j]? = some (some d) → ∃ o, ops[j]? = some o ∧ o.dst = some d := fun j d h => by
    rw [← hd, List.getElem?_map] at h
    cases hj : ops.toList[j]? with
    | none => rw [hj] at h; simp at h
    | some o =>
      rw [hj] at h
      exact ⟨o, by simpa using hj, by simpa using h⟩
  have hmem : ∀ (t : Tmp) (v : Value) (l : List (Tmp × Value)), l.lookup t = some v → ∃ p ∈ l, p.1 = t := fun t v l => by
    induction l with
    | nil => intro h; simp at h
    | cons x r ih =>
      intro h
      rw [List.lookup_cons] at h
      by_cases e : t == x.1
      · exact ⟨x, List.mem_cons_self, (by simpa using e : t = x.1).symm⟩
      · have e' : (t == x.1) = false := by simpa using e
        rw [e'] at h
        obtain ⟨p, hp, hpt⟩ := ih h
        exact ⟨p, List.mem_cons_of_mem _ hp, hpt⟩
  refine wp_region_each (S := S) (F := fun i u w => (factAt fs i).holds u w) hm ho hS (fun i o hi a' w' hts hds hout hSw hdep K hK => ?_) (fun a' w' h1 h2 _ h4 h5 => hend a' w' h1 h2 h4 fun j d h => ?_)
  · have hbase : ∀ t v, base.lookup t = some v → a'.tmps.getD t undef = v := fun t v h => by
      obtain ⟨p, hp, rfl⟩ := hmem t v base h
      rw [List.all_eq_true] at hbo
      rw [hout p.1 (hbo p hp)]; exact hb p.1 v h
    have hdep' : ∀ j d, dsts[j]? = some (some d) → o.after.any (fun e => e.on == j && Region.binds .any e) = true → (factAt fs j).holds (a'.tmps.getD d undef) w' := fun j d h he => by
      rw [Array.any_eq_true] at he
      obtain ⟨n, hn, he⟩ := he
      simp only [Bool.and_eq_true, beq_iff_eq] at he
      obtain ⟨oe, hoe, hde⟩ := hdst' j d h
      have := hdep (o.after[n]) (Array.getElem_mem hn) he.2 oe d (by rw [he.1]; exact hoe) hde
      rw [he.1] at this; exact this
    have hobi := allEach_at ops.toList 0 hob i o (by simpa using hi)
    rw [Nat.zero_add] at hobi
    obtain ⟨hg, hwp⟩ := hobi a' w' hSw hbase hdep' K (fun v w2 hS2 hb2 hf2 => hK v w2 hS2 (fun j u hj => fact_below _ hj hb2) hf2)
    have hwant : Region.wanted o (yielded ops a'.tmps) = true := by
      rcases hg with hg | ⟨j, d, hg, hj, hv⟩
      · simp [Region.wanted, hg]
      · obtain ⟨oj, hoj, hdj⟩ := hdst' j d hj
        have h1 : a'.tmps[d]? = some (.bool true) := by
          cases h : a'.tmps[d]? with
          | none => simp [h] at hv; cases hv
          | some u => simp [h] at hv; rw [hv]
        simp [Region.wanted, hg, yielded, hoj, hdj, h1]
    unfold wpOp
    simp only [hi, hwant, if_true]
    exact .inl hwp
  · obtain ⟨o, ho', hd'⟩ := hdst' j d h
    exact h5 j o d ho' hd'

theorem ob_run {P : Program} {Q : Exit → Act → World → Prop} {o : Oper} {a : Act} {w : World} {K : Act → World → Prop} (v : Value) (hr : (execOp a.eval o).run P w = .ok (.value v) w) (h : K (a.put o.dst v) w) : o.wp P a w K Q := by
  unfold Oper.wp; rw [hr]; exact h
theorem ob_call {P : Program} {Q : Exit → Act → World → Prop} {o : Oper} {a : Act} {w : World} {K : Act → World → Prop} {f : FuncId} {xs : Array Operand} {ts : Array TypeId} (ho : o.op = .call { callee := .value (.func f), args := xs, argTypes := ts })
    {fn : Func} (hfn : P.funcs[f]? = some fn) (hn : (fn.name == "runtime.NumGoroutine") = false) (hb : fn.body.isSome = true) (args : Array Value) (hx : xs.map a.eval = args) (h : Calls P f args w fun e w' => ∃ v, e = .returned v ∧ K (a.put o.dst v) w') : o.wp P a w K Q := by
  subst hx
  unfold Oper.wp
  have hf : a.eval (.func f) = .func (.func f) #[] #[] := rfl
  simp only [execOp, ho, resolve, hf, Deferred.ofValue]
  have hn' : ¬ fn.name = "runtime.NumGoroutine" := by simpa using hn
  have hb' : ¬ fn.body = none := by intro e; rw [e] at hb; cases hb
  simp [invoke, callFunc, Oper.upon, hfn, hn', hb', Result.andThen]
  refine Calls.mono h ?_
  rintro e w' ⟨v, rfl, hk⟩
  exact hk
end Go.Proofs.YtcliiefedmiokaaGreat
/-
  A region that draws its order: its operations, kind by kind.
-/
namespace Go.Proofs.YtcliiefedmiokaaGreat
open Go.RowKit

/-- The operation waits for number j. -/
def dep (o : Oper) (j : Nat) : Bool := o.after.any fun e => e.on == j && Region.binds .any e
/-- What an operand reads as: a slot from before, a slot of a forerunner, a constant. -/
def Src (base : List (Tmp × Value)) (dsts : List (Option Tmp)) (fs : List Fact) (o : Oper) (x : Operand) (v : Value) : Prop :=
  (∃ t, x = .tmp t ∧ base.lookup t = some v) ∨ (∃ j d, x = .tmp d ∧ dsts[j]? = some (some d) ∧ dep o j = true ∧ factAt fs j = .val v) ∨ x = .const v
theorem src_b {base : List (Tmp × Value)} {dsts : List (Option Tmp)} {fs : List Fact} {o : Oper} {v : Value} (t : Tmp) (h : base.lookup t = some v) : Src base dsts fs o (.tmp t) v := .inl ⟨t, rfl, h⟩
theorem src_j {base : List (Tmp × Value)} {dsts : List (Option Tmp)} {fs : List Fact} {o : Oper} {v : Value} {d : Tmp} (j : Nat) (h1 : dsts[j]? = some (some d)) (h2 : dep o j = true) (h3 : factAt fs j = .val v) : Src base dsts fs o (.tmp d) v := .inr (.inl ⟨j, d, rfl, h1, h2, h3⟩)
theorem src_c {base : List (Tmp × Value)} {dsts : List (Option Tmp)} {fs : List Fact} {o : Oper} {v : Value} : Src base dsts fs o (.const v) v := .inr (.inr rfl)
/-- The guard says yes. -/
def Yes (dsts : List (Option Tmp)) (fs : List Fact) (o : Oper) : Prop :=
  o.guard = none ∨ ∃ j d, o.guard = some (j, true) ∧ dsts[j]? = some (some d) ∧ dep o j = true ∧ factAt fs j = .val (.bool true)
theorem yes_j {dsts : List (Option Tmp)} {fs : List Fact} {o : Oper} {d : Tmp} (j : Nat) (h0 : o.guard = some (j, true)) (h1 : dsts[j]? = some (some d)) (h2 : dep o j = true) (h3 : factAt fs j = .val (.bool true)) : Yes dsts fs o := .inr ⟨j, d, h0, h1, h2, h3⟩

def Srcs (base : List (Tmp × Value)) (dsts : List (Option Tmp)) (fs : List Fact) (o : Oper) : List Operand → List Value → Prop
  | [], [] => True
  | x :: l, v :: r => Src base dsts fs o x v ∧ Srcs base dsts fs o l r
  | _, _ => False
section
variable {P : Program} {Q : Exit → Act → World → Prop} {base : List (Tmp × Value)} {dsts : List (Option Tmp)} {S : World → Prop} {fs : List Fact} {i : Nat} {o : Oper}
theorem src_val {a : Act} {w : World} {x : Operand} {v : Value} (h : Src base dsts fs o x v) (hb : ∀ t v, base.lookup t = some v → a.tmps.getD t undef = v)
    (hd : ∀ j d, dsts[j]? = some (some d) → dep o j = true → (factAt fs j).holds (a.tmps.getD d undef) w) : a.eval x = v := by
  rcases h with ⟨t, rfl, h⟩ | ⟨j, d, rfl, h1, h2, h3⟩ | rfl
  · exact hb t v h
  · have := hd j d h1 h2
    rw [h3] at this; exact this
  · rfl
theorem yes_guard {a : Act} {w : World} (h : Yes dsts fs o) (hd : ∀ j d, dsts[j]? = some (some d) → dep o j = true → (factAt fs j).holds (a.tmps.getD d undef) w) :
    o.guard = none ∨ ∃ j d, o.guard = some (j, true) ∧ dsts[j]? = some (some d) ∧ a.tmps.getD d undef = .bool true := by
  rcases h with h | ⟨j, d, h0, h1, h2, h3⟩
  · exact .inl h
  · have := hd j d h1 h2
    rw [h3] at this; exact .inr ⟨j, d, h0, h1, this⟩

/-- An operation that yields v of what its operands read as, in whatever world meets S. -/
theorem obk_run (v : Value) (hf : factAt fs i = .val v) (hy : Yes dsts fs o) (hr : ∀ (a : Act) (w : World), S w → (∀ x u, Src base dsts fs o x u → a.eval x = u) → (execOp a.eval o).run P w = .ok (.value v) w) : Ob P Q base dsts S fs i o :=
  fun a w hS hB hD K hK => ⟨yes_guard hy hD, ob_run v (hr a w hS fun x u hx => src_val hx hB hD) (hK _ _ hS (Below.refl _ _) (by rw [hf]; rfl))⟩
theorem obk_move {x : Operand} (v : Value) (ho : o.op = .move x) (hf : factAt fs i = .val v) (hy : Yes dsts fs o) (hx : Src base dsts fs o x v) : Ob P Q base dsts S fs i o :=
  obk_run v hf hy fun a w _ hs => by unfold execOp; rw [ho]; simp only [hs x v hx]; rfl
theorem obk_assign {x : Operand} (v : Value) (ho : o.op = .assign x) (hf : factAt fs i = .val v) (hy : Yes dsts fs o) (hx : Src base dsts fs o x v) : Ob P Q base dsts S fs i o :=
  obk_run v hf hy fun a w _ hs => by unfold execOp; rw [ho]; simp only [hs x v hx]; rfl
theorem obk_pick {c x y : Operand} (v : Value) (ho : o.op = .pick c x y) (hf : factAt fs i = .val v) (hy : Yes dsts fs o) (hc : Src base dsts fs o c (.bool true)) (hx : Src base dsts fs o x v) : Ob P Q base dsts S fs i o :=
  obk_run v hf hy fun a w _ hs => by
    unfold execOp; rw [ho]; simp only [hs c _ hc, hs x v hx]; rfl
/-- Of one operand, of two. -/
theorem obk_one {x : Operand} {u : Value} (v : Value) (hf : factAt fs i = .val v) (hy : Yes dsts fs o) (hx : Src base dsts fs o x u) (hr : ∀ (ρ : Operand → Value) (w : World), S w → ρ x = u → (execOp ρ o).run P w = .ok (.value v) w) : Ob P Q base dsts S fs i o :=
  obk_run v hf hy fun a w hS hs => hr a.eval w hS (hs x u hx)
theorem obk_two {x y : Operand} {u t : Value} (v : Value) (hf : factAt fs i = .val v) (hy : Yes dsts fs o) (hx : Src base dsts fs o x u) (hy' : Src base dsts fs o y t) (hr : ∀ (ρ : Operand → Value) (w : World), S w → ρ x = u → ρ y = t → (execOp ρ o).run P w = .ok (.value v) w) : Ob P Q base dsts S fs i o :=
  obk_run v hf hy fun a w hS hs => hr a.eval w hS (hs x u hx) (hs y t hy')
/-- A call of one argument or of more, all of them values. -/
theorem obk_call {f : FuncId} {xs : Array Operand} {ts : Array TypeId} {fn : Func} (args : List Value) (ho : o.op = .call { callee := .value (.func f), args := xs, argTypes := ts }) (hfn : P.funcs[f]? = some fn) (hn : (fn.name == "runtime.NumGoroutine") = false) (hb : fn.body.isSome = true)
    (hy : Yes dsts fs o) (hx : Srcs base dsts fs o xs.toList args)
    (hc : ∀ w, S w → Calls P f args.toArray w fun e w' => ∃ v, e = .returned v ∧ S w' ∧ Below w.heap.size w w' ∧ (factAt fs i).holds v w') : Ob P Q base dsts S fs i o :=
  fun a w hS hB hD K hK => ⟨yes_guard hy hD, ob_call ho hfn hn hb args.toArray (by
    have : ∀ (l : List Operand) (r : List Value), Srcs base dsts fs o l r → l.map a.eval = r := fun l => by
      induction l with
      | nil => intro r h; cases r with
        | nil => rfl
        | cons v r => exact h.elim
      | cons x l ih => intro r h; cases r with
        | nil => exact h.elim
        | cons v r => rw [List.map_cons, src_val h.1 hB hD, ih r h.2]
    rw [← this _ _ hx]; exact Array.toList_inj.1 (by simp)) ((hc w hS).mono fun e w' ⟨v, he, h1, h2, h3⟩ => ⟨v, he, hK _ _ h1 h2 h3⟩)⟩
/-- A call whose first argument is a list of lists that a forerunner has made. -/
theorem obk_call1 {f : FuncId} {d : Tmp} {y : Operand} {ts : Array TypeId} {fn : Func} {m : List (List Int)} {u : Value} (j : Nat) (ho : o.op = .call { callee := .value (.func f), args := #[.tmp d, y], argTypes := ts }) (hfn : P.funcs[f]? = some fn) (hn : (fn.name == "runtime.NumGoroutine") = false) (hb : fn.body.isSome = true)
    (hy : Yes dsts fs o) (h1 : dsts[j]? = some (some d)) (h2 : dep o j = true) (h3 : factAt fs j = .mat m) (hx : Src base dsts fs o y u)
    (hc : ∀ v w, S w → InMat w v m → Calls P f #[v, u] w fun e w' => ∃ r, e = .returned r ∧ S w' ∧ Below w.heap.size w w' ∧ (factAt fs i).holds r w') : Ob P Q base dsts S fs i o :=
  fun a w hS hB hD K hK => ⟨yes_guard hy hD, ob_call ho hfn hn hb #[a.tmps.getD d undef, u] (by
    have := src_val hx hB hD
    simp only [List.map_toArray, List.map_cons, List.map_nil, this]; rfl) ((hc _ w hS (by have := hD j d h1 h2; rw [h3] at this; exact this)).mono fun e w' ⟨v, he, g1, g2, g3⟩ => ⟨v, he, hK _ _ g1 g2 g3⟩)⟩
/-- A call whose first argument is a list that a forerunner has made. -/
theorem obk_rowl {f : FuncId} {d : Tmp} {y : Operand} {ts : Array TypeId} {fn : Func} {m : List Int} {u : Value} (j : Nat) (ho : o.op = .call { callee := .value (.func f), args := #[.tmp d, y], argTypes := ts }) (hfn : P.funcs[f]? = some fn) (hn : (fn.name == "runtime.NumGoroutine") = false) (hb : fn.body.isSome = true)
    (hy : Yes dsts fs o) (h1 : dsts[j]? = some (some d)) (h2 : dep o j = true) (h3 : factAt fs j = .row m) (hx : Src base dsts fs o y u)
    (hc : ∀ v w, S w → InRow w v m → Calls P f #[v, u] w fun e w' => ∃ r, e = .returned r ∧ S w' ∧ Below w.heap.size w w' ∧ (factAt fs i).holds r w') : Ob P Q base dsts S fs i o :=
  fun a w hS hB hD K hK => ⟨yes_guard hy hD, ob_call ho hfn hn hb #[a.tmps.getD d undef, u] (by
    have := src_val hx hB hD
    simp only [List.map_toArray, List.map_cons, List.map_nil, this]; rfl) ((hc _ w hS (by have := hD j d h1 h2; rw [h3] at this; exact this)).mono fun e w' ⟨v, he, g1, g2, g3⟩ => ⟨v, he, hK _ _ g1 g2 g3⟩)⟩
/-- A call whose second argument is a list that a forerunner has made. -/
theorem obk_rowr {f : FuncId} {d : Tmp} {y : Operand} {ts : Array TypeId} {fn : Func} {m : List Int} {u : Value} (j : Nat) (ho : o.op = .call { callee := .value (.func f), args := #[y, .tmp d], argTypes := ts }) (hfn : P.funcs[f]? = some fn) (hn : (fn.name == "runtime.NumGoroutine") = false) (hb : fn.body.isSome = true)
    (hy : Yes dsts fs o) (h1 : dsts[j]? = some (some d)) (h2 : dep o j = true) (h3 : factAt fs j = .row m) (hx : Src base dsts fs o y u)
    (hc : ∀ v w, S w → InRow w v m → Calls P f #[u, v] w fun e w' => ∃ r, e = .returned r ∧ S w' ∧ Below w.heap.size w w' ∧ (factAt fs i).holds r w') : Ob P Q base dsts S fs i o :=
  fun a w hS hB hD K hK => ⟨yes_guard hy hD, ob_call ho hfn hn hb #[u, a.tmps.getD d undef] (by
    have := src_val hx hB hD
    simp only [List.map_toArray, List.map_cons, List.map_nil, this]; rfl) ((hc _ w hS (by have := hD j d h1 h2; rw [h3] at this; exact this)).mono fun e w' ⟨v, he, g1, g2, g3⟩ => ⟨v, he, hK _ _ g1 g2 g3⟩)⟩
end
end Go.Proofs.YtcliiefedmiokaaGreat
/-
  The first of the greatest, pure.
-/
namespace Go.Proofs.YtcliiefedmiokaaGreat

/-- One more: the first one of the greatest value so far, and its value. -/
def bestS {M : Type} (vf : M → Int) (s : Option (M × Int)) (m : M) : Option (M × Int) :=
  match s with
  | none => some (m, vf m)
  | some p => if p.2 < vf m then some (m, vf m) else some p
def bestF {M : Type} (vf : M → Int) (L : List M) : Option (M × Int) := L.foldl (bestS vf) none
theorem bestF_snoc {M : Type} (vf : M → Int) (pre : List M) (m : M) : bestF vf (pre ++ [m]) = bestS vf (bestF vf pre) m := by simp [bestF, List.foldl_append]
theorem bestS_none {M : Type} (vf : M → Int) (m : M) : bestS vf none m = some (m, vf m) := rfl
theorem bestS_more {M : Type} {vf : M → Int} {p : M × Int} {m : M} (h : p.2 < vf m) : bestS vf (some p) m = some (m, vf m) := by simp [bestS, h]
theorem bestS_less {M : Type} {vf : M → Int} {p : M × Int} {m : M} (h : ¬ p.2 < vf m) : bestS vf (some p) m = some p := by simp [bestS, h]
/-- It is one of them, none is greater. -/
theorem bestF_spec {M : Type} (vf : M → Int) (L : List M) : match bestF vf L with
    | none => L = []
    | some p => p.1 ∈ L ∧ p.2 = vf p.1 ∧ ∀ m ∈ L, vf m ≤ p.2 := by
  have key : ∀ n (L : List M), L.length = n → match bestF vf L with
    | none => L = []
    | some p => p.1 ∈ L ∧ p.2 = vf p.1 ∧ ∀ m ∈ L, vf m ≤ p.2 := by
    intro n
    induction n with
    | zero => intro L h; obtain rfl := List.eq_nil_of_length_eq_zero h; rfl
    | succ n ih =>
      intro L h
      have hne : L ≠ [] := by intro e; subst e; simp at h
      obtain ⟨pre, m, rfl⟩ : ∃ pre m, L = pre ++ [m] := ⟨L.dropLast, L.getLast hne, (List.dropLast_concat_getLast hne).symm⟩
      have h1 := ih pre (by rw [List.length_append, List.length_singleton] at h; omega)
      rw [bestF_snoc]
      cases e : bestF vf pre with
      | none =>
        rw [e] at h1
        simp only at h1
        subst h1
        rw [bestS_none]
        exact ⟨by simp, rfl, fun x hx => by simp at hx; subst hx; exact Int.le_refl _⟩
      | some p =>
        rw [e] at h1
        obtain ⟨g1, g2, g3⟩ := h1
        by_cases hlt : p.2 < vf m
        · rw [bestS_more hlt]
          refine ⟨by simp, rfl, fun x hx => ?_⟩
          rw [List.mem_append, List.mem_singleton] at hx
          rcases hx with hx | rfl
          · have := g3 x hx; show vf x ≤ vf m; omega
          · exact Int.le_refl _
        · rw [bestS_less hlt]
          refine ⟨by simp [g1], g2, fun x hx => ?_⟩
          rw [List.mem_append, List.mem_singleton] at hx
          rcases hx with hx | rfl
          · exact g3 x hx
          · omega
  exact key _ L rfl
theorem bestF_some {M : Type} {vf : M → Int} {L : List M} (h : L ≠ []) : ∃ p, bestF vf L = some p ∧ p.1 ∈ L ∧ p.2 = vf p.1 ∧ ∀ m ∈ L, vf m ≤ p.2 := by
  have := bestF_spec vf L
  cases e : bestF vf L with
  | none => rw [e] at this; exact absurd this h
  | some p => rw [e] at this; exact ⟨p, rfl, this⟩
end Go.Proofs.YtcliiefedmiokaaGreat
/-
  A queue of the call's own: a slice whose first elements have been cut off, and to which others are appended.
-/
namespace Go.Proofs.YtcliiefedmiokaaGreat
open Go.RowKit

/-- n elements of z cells, from some place on in a row that the call has made. -/
def OwnQ (w : World) (base e z : Nat) (v : Value) (n : Nat) (xs : List Value) : Prop :=
  xs.length = n * z ∧ ∃ g o cap cur, v = .slice (some ⟨g, o, none⟩) n cap ∧ base ≤ g ∧ w.heap[g]? = some (.cells cur e (0, 0)) ∧ n ≤ cap ∧ cap ≤ maxLen ∧ o + cap * z ≤ cur.size ∧ ∀ j, j < n * z → cur[o + j]? = xs[j]?
theorem ownQ_slice {w : World} {base e z n : Nat} {v : Value} {xs : List Value} (h : OwnQ w base e z v n xs) : ∃ g o cap, v = .slice (some ⟨g, o, none⟩) n cap ∧ n ≤ cap ∧ cap ≤ maxLen ∧ base ≤ g ∧ g < w.heap.size ∧ ∀ j, j < n * z → w.cell? ⟨g, o + j, none⟩ = xs[j]? := by
  obtain ⟨-, g, o, cap, cur, rfl, hb, hg, h1, h2, h3, h4⟩ := h
  refine ⟨g, o, cap, rfl, h1, h2, hb, (Array.getElem?_eq_some_iff.1 hg).1, fun j hj => ?_⟩
  rw [cell_of_row w g (o + j) _ _ _ hg]
  exact h4 j hj
theorem ownQ_lt {w : World} {base e z n : Nat} {v : Value} {xs : List Value} (h : OwnQ w base e z v n xs) : ∀ k, v.ownBlock = some k → base ≤ k ∧ k < w.heap.size := by
  obtain ⟨g, o, cap, rfl, -, -, h1, h2, -⟩ := ownQ_slice h
  intro k hk
  simp [Value.ownBlock] at hk
  subst hk
  exact ⟨h1, h2⟩
theorem ownQ_heap {w w' : World} {base e z n : Nat} {v : Value} {xs : List Value} (h : OwnQ w base e z v n xs) (hk : ∀ k, v.ownBlock = some k → w'.heap[k]? = w.heap[k]?) : OwnQ w' base e z v n xs := by
  obtain ⟨h0, g, o, cap, cur, rfl, hb, hg, r⟩ := h
  exact ⟨h0, g, o, cap, cur, rfl, hb, (hk g rfl).trans hg, r⟩
theorem ownQ_below {w w' : World} {base e z n : Nat} {v : Value} {xs : List Value} (h : OwnQ w base e z v n xs) (hb : Below w.heap.size w w') : OwnQ w' base e z v n xs := ownQ_heap h fun k hk => hb.block k (ownQ_lt h k hk).2
theorem ownQ_grown {w w' : World} {base e z n : Nat} {v : Value} {xs : List Value} {row : Option Nat} (h : OwnQ w base e z v n xs) (hg : w.grownBy w' row) (hr : ∀ k, v.ownBlock = some k → row ≠ some k) : OwnQ w' base e z v n xs := ownQ_heap h fun k hk => hg.block k (ownQ_lt h k hk).2 (Ne.symm (hr k hk))
theorem ownQ_of {w : World} {base e z n : Nat} {v : Value} {xs : List Value} (h : w.ownsRow base e z v n xs) (hn : 0 < n) : OwnQ w base e z v n xs := by
  refine ⟨h.1, ?_⟩
  rcases h.2 with ⟨_, h0⟩ | ⟨g, cap, cur, rfl, hb, hg, h1, h2, h3, h4⟩
  · omega
  · refine ⟨g, 0, cap, cur, rfl, hb, hg, h1, h2, by omega, fun j hj => ?_⟩
    rw [Nat.zero_add, ← h4, List.getElem?_take, if_pos hj]; simp
theorem ownQ_not_row {w : World} {b1 e1 z1 n1 b2 e2 z2 n2 : Nat} {v1 v2 : Value} {xs ys : List Value} (h1 : OwnQ w b1 e1 z1 v1 n1 xs) (h2 : w.ownsRow b2 e2 z2 v2 n2 ys) (hne : e1 ≠ e2) : ∀ k, v1.ownBlock = some k → v2.ownBlock ≠ some k := by
  obtain ⟨-, g, o, cap, cur, rfl, -, hg, -⟩ := h1
  intro k hk
  simp [Value.ownBlock] at hk
  subst hk
  rcases h2.2 with ⟨rfl, _⟩ | ⟨g2, c2, cur2, rfl, _, hg2, _⟩
  · simp [Value.ownBlock]
  · intro e
    simp only [Value.ownBlock, Option.some.injEq] at e
    subst e
    rw [hg] at hg2
    simp only [Option.some.injEq, Obj.cells.injEq] at hg2
    exact hne hg2.2.1
/-- 'x[1:]'. -/
def tailV (g o z n cap : Nat) : Value := .slice (some (if cap = 1 then ⟨g, o, none⟩ else ⟨g, o + z, none⟩)) n (cap - 1)
theorem ownQ_tail {w : World} {base e z n g o cap : Nat} {xs : List Value} (h : OwnQ w base e z (.slice (some ⟨g, o, none⟩) (n + 1) cap) (n + 1) xs) : OwnQ w base e z (tailV g o z n cap) n (xs.drop z) := by
  obtain ⟨h0, g', o', cap', cur, he, hb, hg, h1, h2, h3, h4⟩ := h
  cases he
  have hz : (n + 1) * z = n * z + z := by rw [Nat.add_mul, Nat.one_mul]
  refine ⟨by rw [List.length_drop]; omega, ?_⟩
  unfold tailV
  by_cases hc : cap = 1
  · subst hc
    obtain rfl : n = 0 := by omega
    exact ⟨g, o, 0, cur, by rw [if_pos rfl], hb, hg, Nat.zero_le _, Nat.zero_le _, by omega, fun j hj => by omega⟩
  · have e1 : cap * z = (cap - 1) * z + z := by
      obtain ⟨c, rfl⟩ : ∃ c, cap = c + 1 := ⟨cap - 1, by omega⟩
      rw [Nat.add_sub_cancel, Nat.add_mul, Nat.one_mul]
    refine ⟨g, o + z, cap - 1, cur, by rw [if_neg hc], hb, hg, by omega, by omega, by omega, fun j hj => ?_⟩
    rw [List.getElem?_drop, ← h4 (z + j) (by omega), Nat.add_assoc]
theorem exec_tail {P : Program} {ρ : Operand → Value} {o : Oper} {w : World} {x : Operand} {T E : TypeId} {g b z n c : Nat} (ho : o.op = .slice T x (some (.const (.int .i64 1))) none none) (hl : ρ (.const (.int .i64 1)) = .int .i64 1) (hx : ρ x = .slice (some ⟨g, b, none⟩) (n + 1) c) (hc : n + 1 ≤ c) (hu : P.underlying T = some (.slice E)) (hs : ∀ w, (sizeOf E).run P w = .ok z w) :
    (execOp ρ o).run P w = .ok (.value (tailV g b z n c)) w := by
  unfold execOp tailV
  simp only [ho, Option.map_some, Option.map_none, hx, hl]
  by_cases e : c = 1
  · subst e
    have : n = 0 := by omega
    subst this
    simp [Instr.sliceAt, Instr.slice, run_underlying hu, Instr.sliceBounds, Instr.sliceBound, asIntOf, hs, Result.andThen]
  · have h3 : (1 : Int) ≤ (n : Int) + 1 := by omega
    simp [Instr.sliceAt, Instr.slice, run_underlying hu, Instr.sliceBounds, Instr.sliceBound, asIntOf, hs, Result.andThen, e, h3, addr_add]
theorem setCells_row {g : Nat} {e : TypeId} : ∀ (vs : List Value) (o : Nat) (w : World) (cur : Array Value), w.heap[g]? = some (.cells cur e (0, 0)) → o + vs.length ≤ cur.size →
    ∃ cur', (w.setCells g o vs).heap[g]? = some (.cells cur' e (0, 0)) ∧ cur'.size = cur.size ∧ (∀ i, i < o ∨ o + vs.length ≤ i → cur'[i]? = cur[i]?) ∧ (∀ j, j < vs.length → cur'[o + j]? = vs[j]?) ∧ w.grownBy (w.setCells g o vs) (some g) ∧ (w.setCells g o vs).heap.size = w.heap.size
  | [], o, w, cur, h, _ => ⟨cur, h, rfl, fun _ _ => rfl, fun j hj => by simp at hj, ⟨rfl, rfl, rfl, Nat.le_refl _, fun _ _ _ => rfl⟩, rfl⟩
  | x :: r, o, w, cur, h, hle => by
    simp only [List.length_cons] at hle
    have h1 := heap_setCell_same w g o cur e x h
    obtain ⟨cur', g1, g2, g3, g4, g5, g6⟩ := setCells_row r (o + 1) (w.setCell ⟨g, o, none⟩ x) (cur.setIfInBounds o x) h1 (by simp; omega)
    refine ⟨cur', g1, by rw [g2]; simp, fun i hi => ?_, fun j hj => ?_, ?_, ?_⟩
    · simp only [List.length_cons] at hi
      rw [g3 i (by omega), Array.getElem?_setIfInBounds_ne (by omega)]
    · simp only [List.length_cons] at hj
      cases j with
      | zero =>
        rw [g3 (o + 0) (by omega)]
        simp [show o < cur.size by omega]
      | succ j =>
        rw [show o + (j + 1) = o + 1 + j by omega, g4 j (by omega)]; simp
    · exact grown_trans (b := w.setCell ⟨g, o, none⟩ x) ⟨rfl, rfl, rfl, by simp [World.setCell], fun k _ hr => heap_setCell_other w _ k _ fun e => hr (by rw [e])⟩ g5
    · show ((w.setCell ⟨g, o, none⟩ x).setCells g (o + 1) r).heap.size = w.heap.size
      rw [g6]; simp [World.setCell]
/-- 'append(v, x)' at a queue, x laid just before. -/
theorem wpList_pushQ {P : Program} {ops : Array Oper} {rest : List Oper} {o : Oper} {a : Act} {Q : Exit → Act → World → Prop} {W : World} {base n bytes z : Nat} {E T : TypeId} {v : Value} {xs : List Value}
    (hown : OwnQ W base E z v n xs) (cs : Array Value) (zv : Value) (hgd : o.guard = none) (s x : Operand)
    (ho : o.op = .call { callee := .builtin .append, args := #[s, x], argTypes := #[T, T] })
    (ht : P.underlying T = some (.slice E)) (hinfo : (P.info? E).map (fun i => (i.zero, i.size, i.bytes)) = some (some zv, z, bytes)) (hzc : zv.cells.size = z) (hz : 0 < z) (hby : bytes ≤ 1000)
    (hs : a.eval s = v) (hx : a.eval x = .slice (some ⟨W.heap.size, 0, none⟩) 1 1) (hcs : cs.size = z) (hone : cs.all (·.oneCell') = true) (hn : n < 4000000) (hbase : base ≤ W.heap.size)
    (h : ∀ v' w', OwnQ w' base E z v' (n + 1) (xs ++ cs.toList) → Below base W w' → W.grownBy w' v.ownBlock → wpList P ops Q rest (a.put o.dst v') w') :
    wpList P ops Q (o :: rest) a (W.alloc (.cells cs E)) := by
  obtain ⟨i0, hi, hz0, hz1, hz2⟩ := info_parts hinfo
  subst hz1
  have hq := ownQ_below hown ((Below.refl W.heap.size W).alloc (Nat.le_refl _) (.cells cs E))
  have hal : Below base W (W.alloc (.cells cs E)) := (Below.refl _ _).alloc hbase _
  have hlt := ownQ_lt hown
  obtain ⟨h0, g, q, cap, cur, rfl, hb, hg, h1, h2, h3, h4⟩ := hq
  have hnews : ∀ j u, cs.toList[j]? = some u → (W.alloc (.cells cs E)).cell? ((⟨W.heap.size, 0, none⟩ : Addr).add j) = some u := fun j u hj => by
    rw [addr_add, Nat.zero_add, cell_of_row _ W.heap.size j cs E (0, 0) (heap_alloc_new W _)]
    simpa using hj
  have hone' : ∀ u ∈ cs.toList, u.oneCell' = true := fun u hu => (Array.all_eq_true_iff_forall_mem.1 hone) u (by simpa using hu)
  have hlen : cs.toList.length = 1 * i0.size := by simpa using hcs
  have hn1 : (n + 1) * i0.size = n * i0.size + i0.size := by rw [Nat.add_mul, Nat.one_mul]
  refine wpList_plain hgd fun K hK => ?_
  unfold Oper.wp execOp
  simp only [ho, resolve, invoke, builtin, Sem.run_bind, Sem.run_pure, Result.andThen_ok, List.map_toArray, List.map_cons, List.map_nil, hs, hx]
  by_cases hroom : n + 1 ≤ cap
  · have hcz : (n + 1) * i0.size ≤ cap * i0.size := Nat.mul_le_mul_right _ hroom
    have hsz : ∀ j, j < cs.toList.length → q + n * i0.size + j < cur.size := fun j hj => by rw [hlen] at hj; omega
    have hr := run_append_room_cells (P := P) (w := W.alloc (.cells cs E)) T o.type E i0 ht hi g q n cap ⟨W.heap.size, 0, none⟩ 1 1 cs.toList hlen hnews hone' hroom
      (fun j hj => by rw [cell_of_row _ g _ _ _ _ hg, Array.getElem?_eq_getElem (hsz j hj)]; rfl) (fun j hj => frozen_of_row _ g _ _ _ hg)
    rw [hr]
    obtain ⟨cur', g1, g2, g3, g4, g5, g6⟩ := setCells_row cs.toList (q + n * i0.size) (W.alloc (.cells cs E)) cur hg (by rw [hlen]; omega)
    refine hK _ _ (h _ _ ⟨by rw [List.length_append, h0, hlen]; omega, g, q, cap, cur', rfl, hb, g1, hroom, h2, by omega, fun j hj => ?_⟩ (hal.grown g5 (by simp; omega) (fun k hk => by cases hk; exact (hlt g rfl).1)) (grown_trans (World.grownBy_alloc W _ _) g5))
    by_cases e : j < n * i0.size
    · rw [g3 (q + j) (by omega), h4 j e, List.getElem?_append_left (by omega)]
    · rw [List.getElem?_append_right (by omega), h0, show q + j = q + n * i0.size + (j - n * i0.size) by omega]
      exact g4 _ (by rw [hlen]; omega)
  · obtain ⟨v', w', hr, g1, g2⟩ := run_append_arg_grows (P := P) (w := W.alloc (.cells cs E)) T o.type E i0 zv i0.size bytes ht hi hz0 rfl hz2 hzc hz ⟨g, q, none⟩ n cap xs h0 (fun j u hj => by
      have hj' := (List.getElem?_eq_some_iff.1 hj).1
      rw [addr_add, cell_of_row _ g _ _ _ _ hg, h4 j (by omega)]; exact hj) ⟨W.heap.size, 0, none⟩ 1 1 cs.toList hlen hnews (by omega) (by unfold maxLen; omega) (by have : (n + 1) * bytes ≤ 4000000 * 1000 := Nat.mul_le_mul (by omega) hby; omega)
    rw [hr]
    have gg : W.grownBy w' none := grown_trans (World.grownBy_alloc W _ _) g2
    refine hK _ _ (h _ _ (ownQ_of (ownA_base g1 (by simp; omega)) (by omega)) (hal.grown g2 (by simp; omega) (fun k hk => by cases hk)) ⟨gg.os, gg.tape, gg.output, gg.size, fun k hk _ => gg.block k hk (by simp)⟩)
end Go.Proofs.YtcliiefedmiokaaGreat
/-
  Shortest paths by rounds, pure: rounds over a list of steps; as many rounds as there are places suffice.
-/
namespace Go.Proofs.YtcliiefedmiokaaGreat

/-- A step: from where, to where, how long. -/
structure Edge where
  s : Nat
  t : Nat
  l : Int
def updD (d : Nat → Int) (k : Nat) (v : Int) (i : Nat) : Int := if i = k then v else d i
/-- A step is taken: the lengths, and whether one became less. -/
def rx (p : (Nat → Int) × Bool) (e : Edge) : (Nat → Int) × Bool := if p.1 e.s + e.l < p.1 e.t then (updD p.1 e.t (p.1 e.s + e.l), true) else p
def rxs (E : List Edge) (p : (Nat → Int) × Bool) : (Nat → Int) × Bool := E.foldl rx p
/-- So many rounds at most: the lengths where one of them finds nothing shorter. -/
def bell (E : List Edge) : Nat → (Nat → Int) → Option (Nat → Int)
  | 0, _ => none
  | k + 1, d => if (rxs E (d, false)).2 then bell E k (rxs E (d, false)).1 else some (rxs E (d, false)).1

theorem rx_le (p : (Nat → Int) × Bool) (e : Edge) (v : Nat) : (rx p e).1 v ≤ p.1 v := by
  unfold rx
  split
  · simp only [updD]; split
    · rename_i h1 h2; subst h2; omega
    · exact Int.le_refl _
  · exact Int.le_refl _
theorem rxs_le : ∀ (E : List Edge) (p : (Nat → Int) × Bool) (v : Nat), (rxs E p).1 v ≤ p.1 v
  | [], p, v => Int.le_refl _
  | e :: E, p, v => by
    have h1 := rxs_le E (rx p e) v
    have h2 := rx_le p e v
    show (rxs E (rx p e)).1 v ≤ p.1 v
    omega
theorem rxs_append (E F : List Edge) (p : (Nat → Int) × Bool) : rxs (E ++ F) p = rxs F (rxs E p) := by simp [rxs, List.foldl_append]
/-- What is marked stays so. -/
theorem rxs_true : ∀ (E : List Edge) (d : Nat → Int), (rxs E (d, true)).2 = true
  | [], d => rfl
  | e :: E, d => by
    show (rxs E (rx (d, true) e)).2 = true
    unfold rx
    split
    · exact rxs_true E _
    · exact rxs_true E _
/-- The lengths do not hang on the mark. -/
theorem rxs_mark : ∀ (E : List Edge) (d : Nat → Int) (a b : Bool), (rxs E (d, a)).1 = (rxs E (d, b)).1
  | [], d, a, b => rfl
  | e :: E, d, a, b => by
    show (rxs E (rx (d, a) e)).1 = (rxs E (rx (d, b) e)).1
    unfold rx
    simp only
    split
    · rfl
    · exact rxs_mark E d a b
/-- Not marked: nothing has changed, and no step is shorter. -/
theorem rxs_quiet : ∀ (E : List Edge) (d : Nat → Int), (rxs E (d, false)).2 = false → (rxs E (d, false)).1 = d ∧ ∀ e ∈ E, d e.t ≤ d e.s + e.l
  | [], d, _ => ⟨rfl, fun e he => by simp at he⟩
  | e :: E, d, h => by
    have h' : (rxs E (rx (d, false) e)).2 = false := h
    by_cases hlt : d e.s + e.l < d e.t
    · have : rx (d, false) e = (updD d e.t (d e.s + e.l), true) := by unfold rx; rw [if_pos hlt]
      rw [this, rxs_true] at h'; cases h'
    · have h0 : rx (d, false) e = (d, false) := by unfold rx; rw [if_neg hlt]
      rw [h0] at h'
      obtain ⟨g1, g2⟩ := rxs_quiet E d h'
      refine ⟨?_, fun x hx => ?_⟩
      · show (rxs E (rx (d, false) e)).1 = d
        rw [h0]; exact g1
      · rcases List.mem_cons.1 hx with rfl | hx
        · omega
        · exact g2 x hx
theorem rxs_still (E : List Edge) (d : Nat → Int) (h : ∀ e ∈ E, d e.t ≤ d e.s + e.l) : rxs E (d, false) = (d, false) := by
  induction E with
  | nil => rfl
  | cons e E ih =>
    have h1 := h e List.mem_cons_self
    show rxs E (rx (d, false) e) = _
    have h9 : ¬ (d e.s + e.l < d e.t) := by omega
    have h0 : rx (d, false) e = (d, false) := by unfold rx; rw [if_neg h9]
    rw [h0]; exact ih fun x hx => h x (List.mem_cons_of_mem _ hx)
/-- Behind a round each step has been taken. -/
theorem rxs_step (E : List Edge) (p : (Nat → Int) × Bool) (hne : ∀ e ∈ E, e.s ≠ e.t) {e : Edge} (he : e ∈ E) : (rxs E p).1 e.t ≤ p.1 e.s + e.l := by
  obtain ⟨A, B, rfl⟩ := List.append_of_mem he
  rw [rxs_append]
  show (rxs B (rx (rxs A p) e)).1 e.t ≤ _
  have h1 := rxs_le B (rx (rxs A p) e) e.t
  have h2 := rxs_le A p e.s
  have h3 : (rx (rxs A p) e).1 e.t ≤ (rxs A p).1 e.s + e.l := by
    unfold rx
    split
    · simp [updD]
    · omega
  omega

/-- The lengths come from a tree: each place has length 0, or a step that leads there from an earlier place. -/
structure TreeD (n : Nat) (E : List Edge) (D : Nat → Int) (r : Nat → Nat) : Prop where
  zero : ∀ v, D v ≤ 0
  fit : ∀ e ∈ E, D e.t ≤ D e.s + e.l
  tree : ∀ v, D v = 0 ∨ ∃ e ∈ E, e.t = v ∧ D e.s + e.l = D v ∧ r e.s < r v
/-- While the rounds run. -/
structure RunD (E : List Edge) (d : Nat → Int) (r : Nat → Nat) (T : Nat) : Prop where
  zero : ∀ v, d v ≤ 0
  late : ∀ v, r v ≤ T
  tree : ∀ v, (d v = 0 ∧ r v = 0) ∨ ∃ e ∈ E, e.t = v ∧ d e.s + e.l ≤ d v ∧ (d e.s + e.l = d v → r e.s < r v)
theorem runD_start (E : List Edge) : RunD E (fun _ => 0) (fun _ => 0) 0 := ⟨fun _ => Int.le_refl _, fun _ => Nat.le_refl _, fun _ => .inl ⟨rfl, rfl⟩⟩
theorem runD_rx {E : List Edge} {d : Nat → Int} {r : Nat → Nat} {T : Nat} {b : Bool} {e : Edge} (h : RunD E d r T) (he : e ∈ E) (hne : e.s ≠ e.t) : ∃ r' T', RunD E (rx (d, b) e).1 r' T' := by
  by_cases hlt : d e.s + e.l < d e.t
  · have e1 : (rx (d, b) e).1 = updD d e.t (d e.s + e.l) := by unfold rx; rw [if_pos hlt]
    rw [e1]
    refine ⟨fun v => if v = e.t then T + 1 else r v, T + 1, fun v => ?_, fun v => ?_, fun v => ?_⟩
    · unfold updD; split
      · have := h.zero e.t; omega
      · exact h.zero v
    · show (if v = e.t then T + 1 else r v) ≤ T + 1
      split
      · exact Nat.le_refl _
      · have := h.late v; omega
    · by_cases hv : v = e.t
      · subst hv
        refine .inr ⟨e, he, rfl, ?_, fun _ => ?_⟩
        · simp only [updD, if_neg hne, if_true]; exact Int.le_refl _
        · simp only [if_neg hne, if_true]; have := h.late e.s; omega
      · rcases h.tree v with ⟨g1, g2⟩ | ⟨x, hx, g1, g2, g3⟩
        · exact .inl ⟨by unfold updD; rw [if_neg hv]; exact g1, by simp only [if_neg hv]; exact g2⟩
        · refine .inr ⟨x, hx, g1, ?_, ?_⟩
          · simp only [updD, if_neg hv]
            split
            · rename_i h9; rw [h9] at g2; omega
            · exact g2
          · simp only [updD, if_neg hv]
            by_cases h9 : x.s = e.t
            · simp only [if_pos h9]
              intro h10; rw [h9] at g2; omega
            · simp only [if_neg h9]; exact g3
  · have e1 : (rx (d, b) e).1 = d := by unfold rx; rw [if_neg hlt]
    rw [e1]; exact ⟨r, T, h⟩
theorem runD_rxs {E : List Edge} (hne : ∀ e ∈ E, e.s ≠ e.t) : ∀ (F : List Edge), (∀ e ∈ F, e ∈ E) → ∀ (p : (Nat → Int) × Bool) (r : Nat → Nat) (T : Nat), RunD E p.1 r T → ∃ r' T', RunD E (rxs F p).1 r' T'
  | [], _, p, r, T, h => ⟨r, T, h⟩
  | e :: F, hF, p, r, T, h => by
    obtain ⟨d, b⟩ := p
    obtain ⟨r', T', h'⟩ := runD_rx (b := b) h (hF e List.mem_cons_self) (hne e (hF e List.mem_cons_self))
    exact runD_rxs hne F (fun x hx => hF x (List.mem_cons_of_mem _ hx)) (rx (d, b) e) r' T' h'
/-- Where the rounds come to an end: a tree of shortest paths. -/
theorem bell_tree {E : List Edge} (hne : ∀ e ∈ E, e.s ≠ e.t) : ∀ (k : Nat) (d : Nat → Int) (r : Nat → Nat) (T : Nat), RunD E d r T → ∀ D, bell E k d = some D → ∃ n r', TreeD n E D r' := by
  intro k
  induction k with
  | zero => intro d r T _ D h; simp [bell] at h
  | succ k ih =>
    intro d r T h D hD
    obtain ⟨r', T', h'⟩ := runD_rxs hne E (fun _ h => h) (d, false) r T h
    unfold bell at hD
    split at hD
    · exact ih _ r' T' h' D hD
    · rename_i hq
      obtain ⟨g1, g2⟩ := rxs_quiet E d (by simpa using hq)
      obtain rfl := Option.some.inj hD
      rw [g1]
      refine ⟨0, r, h.zero, g2, fun v => ?_⟩
      rcases h.tree v with ⟨g, -⟩ | ⟨e, he, h1, h2, h3⟩
      · exact .inl g
      · have := g2 e he
        rw [h1] at this
        exact .inr ⟨e, he, h1, by omega, h3 (by omega)⟩
theorem cnt_lt {p q : Nat → Bool} : ∀ n, (∀ i, i < n → p i = true → q i = true) → (∃ i, i < n ∧ p i = false ∧ q i = true) → cnt p n < cnt q n
  | 0, _, ⟨i, hi, _⟩ => by omega
  | n + 1, h, ⟨i, hi, h1, h2⟩ => by
    have hmono : cnt p n ≤ cnt q n := cnt_mono n fun j hj => h j (by omega)
    by_cases e : i = n
    · subst e
      rw [cnt_no h1, cnt_yes h2]; omega
    · have := cnt_lt n (fun j hj => h j (by omega)) ⟨i, by omega, h1, h2⟩
      cases hp : p n with
      | true => rw [cnt_yes hp, cnt_yes (h n (by omega) hp)]; omega
      | false =>
        rw [cnt_no hp]
        cases hq : q n with
        | true => rw [cnt_yes hq]; omega
        | false => rw [cnt_no hq]; omega
where
  cnt_mono {p q : Nat → Bool} : ∀ n, (∀ i, i < n → p i = true → q i = true) → cnt p n ≤ cnt q n
    | 0, _ => Nat.le_refl _
    | n + 1, h => by
      have h1 := cnt_mono n fun i hi => h i (by omega)
      cases hp : p n with
      | true => rw [cnt_yes hp, cnt_yes (h n (by omega) hp)]; omega
      | false =>
        rw [cnt_no hp]
        cases hq : q n with
        | true => rw [cnt_yes hq]; omega
        | false => rw [cnt_no hq]; omega
/-- The places that have not yet their least length. -/
def open' (D d : Nat → Int) (v : Nat) : Bool := d v != D v
theorem tree_root {n : Nat} {E : List Edge} {D : Nat → Int} {r : Nat → Nat} (h : TreeD n E D r) (hin : ∀ e ∈ E, e.s < n) : ∀ (m v : Nat), r v ≤ m → v < n → ∃ u, u < n ∧ D u = 0 := by
  intro m
  induction m with
  | zero =>
    intro v hv hn
    rcases h.tree v with g | ⟨e, he, -, -, g⟩
    · exact ⟨v, hn, g⟩
    · omega
  | succ m ih =>
    intro v hv hn
    rcases h.tree v with g | ⟨e, he, -, -, g⟩
    · exact ⟨v, hn, g⟩
    · exact ih e.s (by omega) (hin e he)
theorem open_first {n : Nat} {E : List Edge} {D d : Nat → Int} {r : Nat → Nat} (h : TreeD n E D r) (hin : ∀ e ∈ E, e.s < n) (hd : ∀ v, d v ≤ 0) (hD : ∀ v, D v ≤ d v) : ∀ (m v : Nat), r v ≤ m → v < n → d v ≠ D v → ∃ e ∈ E, e.t < n ∧ d e.t ≠ D e.t ∧ d e.s = D e.s ∧ D e.s + e.l = D e.t := by
  intro m
  induction m with
  | zero =>
    intro v hv hn ho
    rcases h.tree v with g | ⟨e, he, -, -, g⟩
    · exfalso; have := hd v; have := hD v; omega
    · omega
  | succ m ih =>
    intro v hv hn ho
    rcases h.tree v with g | ⟨e, he, g1, g2, g3⟩
    · exfalso; have := hd v; have := hD v; omega
    · by_cases hs : d e.s = D e.s
      · exact ⟨e, he, by rw [g1]; exact hn, by rw [g1]; exact ho, hs, by rw [g1]; exact g2⟩
      · exact ih e.s (by omega) (hin e he) hs
/-- No length falls below the least. -/
theorem rxs_ge {E : List Edge} {D : Nat → Int} (hfit : ∀ e ∈ E, D e.t ≤ D e.s + e.l) : ∀ (F : List Edge), (∀ e ∈ F, e ∈ E) → ∀ (p : (Nat → Int) × Bool), (∀ v, D v ≤ p.1 v) → ∀ v, D v ≤ (rxs F p).1 v
  | [], _, p, h, v => h v
  | e :: F, hF, p, h, v => by
    refine rxs_ge hfit F (fun x hx => hF x (List.mem_cons_of_mem _ hx)) (rx p e) (fun u => ?_) v
    unfold rx
    split
    · simp only [updD]; split
      · rename_i h9; subst h9
        have h1 := hfit e (hF e List.mem_cons_self); have h2 := h e.s; omega
      · exact h u
    · exact h u
/-- As many rounds as there are open places and one more come to the end. -/
theorem bell_end {n : Nat} {E : List Edge} {D : Nat → Int} {r : Nat → Nat} (h : TreeD n E D r) (hin : ∀ e ∈ E, e.s < n ∧ e.t < n) (hne : ∀ e ∈ E, e.s ≠ e.t) :
    ∀ (k : Nat) (d : Nat → Int), (∀ v, d v ≤ 0) → (∀ v, D v ≤ d v) → cnt (open' D d) n < k → ∃ D', (∀ v, v < n → D' v = D v) ∧ ∀ j, k ≤ j → bell E j d = some D' := by
  intro k
  induction k with
  | zero => intro d _ _ hc; omega
  | succ k ih =>
    intro d hd hD hc
    cases hm : (rxs E (d, false)).2 with
    | false =>
      obtain ⟨g1, g2⟩ := rxs_quiet E d hm
      refine ⟨d, fun v hv => ?_, fun j hj => ?_⟩
      · rcases Decidable.em (d v = D v) with e | e
        · exact e
        · exfalso
          obtain ⟨x, hx, -, h2, h3, h4⟩ := open_first h (fun x hx => (hin x hx).1) hd hD (r v) v (Nat.le_refl _) hv e
          have h5 := g2 x hx; have h6 := hD x.t; omega
      · obtain ⟨i, rfl⟩ : ∃ i, j = i + 1 := ⟨j - 1, by omega⟩
        unfold bell
        rw [hm, g1]; rfl
    | true =>
      have hopen : ∃ v, v < n ∧ d v ≠ D v := by
        refine Decidable.byContradiction fun hno => ?_
        have hall : ∀ v, v < n → d v = D v := fun v hv => Decidable.byContradiction fun e => hno ⟨v, hv, e⟩
        have := rxs_still E d fun e he => by
          rw [hall _ (hin e he).1, hall _ (hin e he).2]; exact h.fit e he
        rw [this] at hm; cases hm
      obtain ⟨v, hv, ho⟩ := hopen
      obtain ⟨x, hx, h1, h2, h3, h4⟩ := open_first h (fun x hx => (hin x hx).1) hd hD (r v) v (Nat.le_refl _) hv ho
      have hge : ∀ v, D v ≤ (rxs E (d, false)).1 v := rxs_ge h.fit E (fun _ h => h) (d, false) hD
      have hle : ∀ v, (rxs E (d, false)).1 v ≤ d v := rxs_le E (d, false)
      have hst := rxs_step E (d, false) hne hx
      have hlt : cnt (open' D (rxs E (d, false)).1) n < cnt (open' D d) n := by
        refine cnt_lt n (fun i hi hp => ?_) ⟨x.t, h1, ?_, ?_⟩
        · unfold open' at hp ⊢
          rw [bne_iff_ne] at hp ⊢
          have := hge i; have := hle i
          intro e; omega
        · unfold open'
          have := hge x.t
          have e : (rxs E (d, false)).1 x.t = D x.t := by simp only at hst; omega
          rw [e]; simp
        · unfold open'
          rw [bne_iff_ne]; exact h2
      obtain ⟨D', g1, g2⟩ := ih (rxs E (d, false)).1 (fun v => by have := hle v; have := hd v; omega) hge (by omega)
      refine ⟨D', g1, fun j hj => ?_⟩
      obtain ⟨i, rfl⟩ : ∃ i, j = i + 1 := ⟨j - 1, by omega⟩
      unfold bell
      rw [if_pos hm]
      exact g2 i (by omega)
theorem cnt_lt_all {p : Nat → Bool} : ∀ n, (∃ i, i < n ∧ p i = false) → cnt p n < n
  | 0, ⟨i, hi, _⟩ => by omega
  | n + 1, ⟨i, hi, h⟩ => by
    by_cases e : i = n
    · subst e; rw [cnt_no h]; have := cnt_le p i; omega
    · have := cnt_lt_all n ⟨i, by omega, h⟩
      cases hp : p n with
      | true => rw [cnt_yes hp]; omega
      | false => rw [cnt_no hp]; omega
/-- So many rounds as there are places do what one more does. -/
theorem bell_more {n : Nat} {E : List Edge} (hn : 0 < n) (hin : ∀ e ∈ E, e.s < n ∧ e.t < n) (hne : ∀ e ∈ E, e.s ≠ e.t) : bell E (n + 1) (fun _ => 0) = bell E n (fun _ => 0) := by
  have key : ∀ D, (bell E (n + 1) (fun _ => 0) = some D ∨ bell E n (fun _ => 0) = some D) → bell E (n + 1) (fun _ => 0) = bell E n (fun _ => 0) := by
    intro D h
    have : ∃ m r, TreeD m E D r := by
      rcases h with h | h
      · exact bell_tree hne _ _ _ _ (runD_start E) D h
      · exact bell_tree hne _ _ _ _ (runD_start E) D h
    obtain ⟨m, r, ht⟩ := this
    have ht' : TreeD n E D r := ⟨ht.zero, ht.fit, ht.tree⟩
    obtain ⟨u, hu, h0⟩ := tree_root ht' (fun e he => (hin e he).1) (r 0) 0 (Nat.le_refl _) hn
    have hc : cnt (open' D fun _ => 0) n < n := cnt_lt_all n ⟨u, hu, by unfold open'; rw [h0]; rfl⟩
    obtain ⟨D', -, g⟩ := bell_end ht' hin hne n (fun _ => 0) (fun _ => Int.le_refl _) ht.zero hc
    rw [g n (Nat.le_refl _), g (n + 1) (Nat.le_succ _)]
  cases h1 : bell E (n + 1) (fun _ => 0) with
  | some D => rw [← h1]; exact key D (.inl h1)
  | none =>
    cases h2 : bell E n (fun _ => 0) with
    | none => rfl
    | some D => rw [← h1, ← h2]; exact key D (.inr h2)
end Go.Proofs.YtcliiefedmiokaaGreat
