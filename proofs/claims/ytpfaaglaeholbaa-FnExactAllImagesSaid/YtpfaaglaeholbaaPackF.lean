/-
  Texts of this claim, one behind the other: ShSl, Subs, LawsBL, EachF, Seq, ShSort, SortF, Grown, Bound.
-/
import Derived.Shelf.Slices.Clone
import Derived.Ground.Names2Prog
import Derived.Test.YtpfaaglaeholbaaProg
import Derived.Test.YtpfaaglaeholbaaPackD
import Derived.Test.YtpfaaglaeholbaaPackC
import Derived.Test.YtpfaaglaeholbaaRows
import Derived.RangeFuncBox
import Derived.RangeFuncLeaves
import Derived.RangeFuncBound
import Derived.Shelf.Abstract
import Derived.OwnWalkIn
import Derived.TacticsInMore
import Derived.LoopNIn
import Derived.LoopIn
import Derived.Maps.AppendAt
import Derived.Shelf.SlSortCmp.NoneTotal
import Derived.Test.YtpfaaglaeholbaaPackA
import Derived.Shelf.SlSortCmp.QuietGrown
/-
  Contracts of the library, at this translation: laid by the shelf, in plain declarations.
-/
namespace Go.Proofs
open Go.Shelf Go.RowKit Go.Lib
def Try.laysNm215_ren : Go.Shelf.Ren := ⟨fun | 15 => 95 | n => n, fun | 22 => 44 | 3 => 3 | 4 => 4 | n => n, fun | n => n⟩
theorem Try.laysNm215 : Go.Proofs.Lays2.n15 Try.prog Try.laysNm215_ren := {
  mixed := by kernel_rfl
  f15 := Try.func95.trans (congrArg some (by kernel_rfl))
  t3 := Try.underlying3
  a3 := Try.isAgg3
  z3 := Try.sizeOf3
  v3 := Try.zeroValue3
  t4 := Try.underlying4
  a4 := Try.isAgg4
  z4 := Try.sizeOf4
  v4 := Try.zeroValue4
  t22 := Try.underlying44
  a22 := Try.isAgg44
  z22 := Try.sizeOf44
  v22 := Try.zeroValue44
  i3 := by kernel_rfl }
theorem Try.slices_Clone_int (b off n c : Nat) (zs : List Int) (w : World) (hz : n ≤ zs.length) (hbig : n * 8 ≤ 140737488355328) (hc : ∀ j, j < zs.length → w.cell? ⟨b, off + j, none⟩ = some (.int .i64 (zs.getD j 0))) :
    Calls Try.prog 95 #[.slice (some ⟨b, off, none⟩) n c] w fun e w' => ∃ v', e = .returned v' ∧ w'.ownsRow w.heap.size 3 1 v' n ((zs.take n).map (Value.int .i64)) ∧ v' ≠ .slice none 0 0 ∧ Below w.heap.size w w' := Any.slices_Clone_int Try.laysNm215 b off n c zs w hz hbig hc
theorem Try.slices_Clone_int_nil (n c : Nat) (w : World) :
    Calls Try.prog 95 #[.slice none n c] w fun e w' => e = .returned (.slice none 0 0) ∧ w' = w := Any.slices_Clone_int_nil Try.laysNm215 n c w
theorem Try.slices_Clone_int_zero (a : Addr) (c : Nat) (w : World) :
    Calls Try.prog 95 #[.slice (some a) 0 c] w fun e w' => ∃ v', e = .returned v' ∧ w'.ownsRow w.heap.size 3 1 v' 0 [] ∧ v' ≠ .slice none 0 0 ∧ Below w.heap.size w w' := Any.slices_Clone_int_zero Try.laysNm215 a c w
end Go.Proofs
/-
  slices.Clone at integers; sumsWithout of the program; slices with their capacity.
-/
namespace Go.Proofs.Ytpfaaglaeholbaa
open Go.RowKit

theorem clone_any (v : Value) (r : List Int) (w : World) (hin : InRow w v r) (hn : r.length ≤ 2000000) :
    Calls Try.prog 95 #[v] w (IntsRes r w) := by
  obtain ⟨a, c, rfl, hm, hp⟩ := hin
  by_cases h0 : r.length = 0
  · obtain rfl : r = [] := List.eq_nil_of_length_eq_zero h0
    cases a with
    | none =>
      refine (Try.slices_Clone_int_nil 0 c w).mono ?_
      rintro e w' ⟨rfl, rfl⟩
      exact intsRes_nil (Below.refl _ _)
    | some x =>
      refine (Try.slices_Clone_int_zero x c w).mono ?_
      rintro e w' ⟨v', rfl, ho, -, hb⟩
      exact ⟨v', rfl, ho, hb⟩
  · obtain ⟨g, o, rfl, -, hc⟩ := hp.resolve_left h0
    refine (Try.slices_Clone_int g o r.length c r w (Nat.le_refl _) (by omega) (fun j hj => ?_)).mono ?_
    · rw [hc j hj, List.getD_eq_getElem?_getD, List.getElem?_eq_getElem hj]; rfl
    rintro e w' ⟨v', rfl, ho, -, hb⟩
    rw [List.take_length] at ho
    exact ⟨v', rfl, ho, hb⟩
/-- What has been left behind k cells of the row. -/
def subF (c row : List Int) (k x : Nat) : Int := c.getD x 0 - if x < k then row.getD x 0 else 0
theorem subF_zero (c row : List Int) : tabL c.length (subF c row 0) = c := by
  rw [show tabL c.length (subF c row 0) = tabL c.length (fun x => c.getD x 0) from tabL_congr fun i _ => by rw [subF, if_neg (Nat.not_lt_zero _)]; simp]
  exact tabL_self c
theorem subF_all (c row : List Int) (k : Nat) (h : c.length ≤ k) : tabL c.length (subF c row k) = subL c row :=
  tabL_congr fun i hi => by rw [subF, if_pos (by omega)]
set_option maxHeartbeats 1000000 in
theorem sumsWithout_any (vc vr : Value) (c row : List Int) (w : World) (hc : InRow w vc c) (hr : InRow w vr row) (hl : row.length = c.length) (hn : c.length ≤ 5) (hM : ∀ x, x < c.length → -1000 ≤ c.getD x 0 ∧ c.getD x 0 ≤ 1000) (hR : ∀ x, x < c.length → -1000 ≤ row.getD x 0 ∧ row.getD x 0 ≤ 1000) :
    Calls Try.prog 112 #[vc, vr] w (IntsRes (subL c row) w) := by
  have HCL := hide (clone_any vc c w hc (by omega))
  have HM := hide hM; have HRR := hide hR
  obtain ⟨a, ca, rfl, hm, hp⟩ := hr
  unfold maxLen at hm
  have HP := hide fun h : row.length ≠ 0 => hp.resolve_left h
  have HZ := hide (subF_zero c row); have HA := hide (subF_all c row)
  have HX : Hid (∀ x, (h : x < row.length) → row.getD x 0 = row[x]) := hide fun x h => by rw [List.getD_eq_getElem?_getD, List.getElem?_eq_getElem h]; rfl
  rw [hl] at hm ⊢
  have HLL : Hid (row.length = c.length) := hide hl
  obtain ⟨C, hC⟩ : ∃ C, C = c.length := ⟨_, rfl⟩
  have HC := hide hC
  rw [← hC] at HZ HA hm hn HM HRR HLL ⊢
  clear hc hM hR hp hC hl
  go_enter Try.func112, Try.ntmps112
  go_wp2_with fail
  refine HCL.out.mono ?_
  rintro e w1 ⟨v1, rfl, ho, hb⟩
  rw [← HC.out] at ho
  obtain ⟨xa, xc, rfl⟩ := own_slice ho
  have HO := hide ho; have HB := hide hb
  clear ho hb
  go_wp2
  go_loopw [12] (fun i w' => ∃ k : Nat, k ≤ C ∧ i = .int .i64 k ∧ w'.ownsRow w.heap.size 3 1 (.slice xa C xc) C (ints (tabL C (subF c row k))) ∧ Below w.heap.size w w') (fun i _ => C - (intOf i).toNat)
  case atStart => exact ⟨0, Nat.zero_le _, rfl, by rw [HZ.out]; exact HO.out, HB.out⟩
  case round =>
    clear HO HB
    obtain ⟨k, hk, rfl, hown, hb⟩ := hrel
    have HO := hide hown; have HB := hide hb
    clear hb
    by_cases hlt : k < C
    · have hkr : k < row.length := by rw [HLL.out]; exact hlt
      obtain ⟨g, o, rfl, hg, hcell⟩ := HP.out (by omega)
      obtain ⟨g1, c1, he, hb1, -, -, -, -, -⟩ := own_some hown (by omega)
      cases he
      have hx := below_cell HB.out hg (hcell k hkr)
      rw [← HX.out k hkr] at hx
      have hc1 := cell_held HO.out hlt
      rw [tabL_held hlt, subF, if_neg (Nat.lt_irrefl k), Int.sub_zero] at hc1
      have hf := HO.out.frozenAt k
      have hm1 := HM.out k hlt
      have hm2 := HRR.out k hlt
      have HS := HO.out.stored k (.int .i64 (c.getD k 0 - row.getD k 0))
      rw [ints_set, tabL_set] at HS
      rw [show (tabL C fun t => if t = k then c.getD k 0 - row.getD k 0 else subF c row k t) = tabL C (subF c row (k + 1)) from tabL_congr fun i _ => by
        unfold subF
        by_cases e : i = k
        · subst e; rw [if_pos rfl, if_pos (Nat.lt_succ_self _)]
        · rw [if_neg e]
          by_cases e' : i < k
          · rw [if_pos e', if_pos (by omega)]
          · rw [if_neg e', if_neg (by omega)]] at HS
      have HS := hide HS
      obtain ⟨x1, hx1⟩ : ∃ x1, x1 = c.getD k 0 := ⟨_, rfl⟩
      obtain ⟨x2, hx2⟩ : ∃ x2, x2 = row.getD k 0 := ⟨_, rfl⟩
      rw [← hx1] at hc1 hm1 HS
      rw [← hx2] at hx hm2 HS
      obtain ⟨hm11, hm12⟩ := hm1
      obtain ⟨hm21, hm22⟩ := hm2
      clear hx1 hx2 hown hcell
      go_wp2
      go_roundw
      case rel => exact ⟨k + 1, by omega, by go_num, HS.out.1, HB.out.setCell hb1 _⟩
      case measure => simp [intOf]; omega
    · obtain rfl : k = C := by omega
      have HF := hide (HA.out k (Nat.le_refl _))
      rw [HF.out] at HO
      clear hown
      go_wp2
      go_ret
      exact ⟨_, rfl, by rw [subL_len, ← HC.out]; exact HO.out, HB.out⟩

/-- The slice reads as r, and its capacity is no less than its length. -/
def RowC (w : World) (v : Value) (r : List Int) : Prop := InRow w v r ∧ ∃ a c, v = .slice a r.length c ∧ r.length ≤ c ∧ c ≤ maxLen
theorem rowC_below {w w' : World} {v : Value} {r : List Int} (h : RowC w v r) (hb : Below w.heap.size w w') : RowC w' v r := ⟨inRow_below h.1 hb, h.2⟩
theorem rowC_own {w : World} {base : Nat} {v : Value} {r : List Int} (h : w.ownsRow base 3 1 v r.length (ints r)) : RowC w v r := by
  refine ⟨inRow_own h, ?_⟩
  rcases h.2 with ⟨rfl, h0⟩ | ⟨g, cap, cur, rfl, hbg, hg, hc, hm, _⟩
  · exact ⟨none, 0, by rw [h0], by omega, Nat.zero_le _⟩
  · exact ⟨_, _, rfl, hc, hm⟩
theorem rowC_tail {w : World} {g o n c : Nat} {x : Int} {r : List Int} (h : RowC w (.slice (some ⟨g, o, none⟩) n c) (x :: r)) : RowC w (.slice (if c = 1 then some ⟨g, o, none⟩ else some ⟨g, o + 1, none⟩) (n - 1) (c - 1)) r := by
  obtain ⟨⟨a, c', he, hm, hp⟩, a2, c2, he2, hl, hmx⟩ := h
  cases he; cases he2
  simp only [List.length_cons, Nat.add_sub_cancel] at hl hm ⊢
  refine ⟨⟨_, _, rfl, by omega, ?_⟩, _, _, rfl, by omega, by omega⟩
  obtain ⟨g', o', he', hg, hc⟩ := hp.resolve_left (by simp)
  cases he'
  by_cases h0 : r.length = 0
  · exact .inl h0
  · rw [if_neg (by omega)]
    refine .inr ⟨g, o + 1, rfl, hg, fun i hi => ?_⟩
    have := hc (i + 1) (by simp; omega)
    rw [List.getElem_cons_succ] at this
    rw [← this, show o + (i + 1) = o + 1 + i by omega]
end Go.Proofs.Ytpfaaglaeholbaa
/-
  The exact laws on BuildImage and LeastImage, walked.
-/
namespace Go.Proofs.Ytpfaaglaeholbaa
open Go.RowKit
set_option linter.unusedVariables false

end Go.Proofs.Ytpfaaglaeholbaa
/-
  A range over a function whose iterator keeps memory of its own between the rounds and hands memory on: what either side may change is a set of blocks.
-/
namespace Go.Proofs.Ytpfaaglaeholbaa
open Go.RowKit Go.Shelf

section
variable {P : Program}

/-- No block has turned but those of A. -/
structure ItOnly (A : Nat → Prop) (W W' : World) : Prop where
  os : W'.os = W.os
  tape : W'.tape = W.tape
  output : W'.output = W.output
  size : W.heap.size ≤ W'.heap.size
  block : ∀ k, k < W.heap.size → ¬ A k → W'.heap[k]? = W.heap[k]?
/-- .. and what is the caller's now was so before, or is new. -/
def ItStep (A A' : Nat → Prop) (W W' : World) : Prop := ItOnly A W W' ∧ ∀ k, A' k → A k ∨ W.heap.size ≤ k
theorem itStep_put {A B : Nat → Prop} {U W : World} {k : Nat} (h : ItStep A B U W) (hk : U.heap.size ≤ k) (o : Obj) : ItStep A B U (W.putObj k o) :=
  ⟨⟨h.1.os, h.1.tape, h.1.output, by simpa using h.1.size, fun i hi hn => by rw [World.putObj_heap_other (by omega)]; exact h.1.block i hi hn⟩, h.2⟩
/-- .. or has been handed over. -/
def ItGive (A A' G : Nat → Prop) (W W' : World) : Prop := ItOnly A W W' ∧ ∀ k, A' k → A k ∨ G k ∨ W.heap.size ≤ k
theorem itStep_refl (A : Nat → Prop) (W : World) : ItStep A A W W := ⟨⟨rfl, rfl, rfl, Nat.le_refl _, fun _ _ _ => rfl⟩, fun _ h => .inl h⟩
theorem itStep_trans {A B C : Nat → Prop} {U V W : World} (h : ItStep A B U V) (k : ItStep B C V W) : ItStep A C U W := by
  refine ⟨⟨k.1.os.trans h.1.os, k.1.tape.trans h.1.tape, k.1.output.trans h.1.output, Nat.le_trans h.1.size k.1.size, fun i hi hn => ?_⟩, fun i hi => ?_⟩
  · rw [k.1.block i (Nat.lt_of_lt_of_le hi h.1.size) (fun hb => (h.2 i hb).elim hn (fun h2 => by omega)), h.1.block i hi hn]
  · rcases k.2 i hi with h2 | h2
    · exact h.2 i h2
    · exact .inr (Nat.le_trans h.1.size h2)
theorem itGive_trans {A B C G : Nat → Prop} {U V W : World} (h : ItStep A B U V) (k : ItGive B C G V W) (hG : ∀ i, G i → U.heap.size ≤ i) : ItStep A C U W := by
  refine ⟨⟨k.1.os.trans h.1.os, k.1.tape.trans h.1.tape, k.1.output.trans h.1.output, Nat.le_trans h.1.size k.1.size, fun i hi hn => ?_⟩, fun i hi => ?_⟩
  · rw [k.1.block i (Nat.lt_of_lt_of_le hi h.1.size) (fun hb => (h.2 i hb).elim hn (fun h2 => by omega)), h.1.block i hi hn]
  · rcases k.2 i hi with h2 | h2 | h2
    · exact h.2 i h2
    · exact .inr (hG i h2)
    · exact .inr (Nat.le_trans h.1.size h2)
theorem itStep_below {A : Nat → Prop} {W W' : World} (h : Below W.heap.size W W') : ItStep A A W W' := ⟨⟨h.os, h.tape, h.output, h.size, fun k hk _ => h.block k hk⟩, fun _ h => .inl h⟩
/-- J speaks of the caller's blocks and of what lay below B alone. -/
def AbidF {β : Type} (B : Nat) (J : β → (Nat → Prop) → World → Prop) : Prop :=
  ∀ s A W W', J s A W → W'.os = W.os → W'.tape = W.tape → W'.output = W.output → W.heap.size ≤ W'.heap.size → (∀ k, k < W.heap.size → (k < B ∨ A k) → W'.heap[k]? = W.heap[k]?) → J s A W'
theorem abidF_mono {β : Type} {B B' : Nat} {J : β → (Nat → Prop) → World → Prop} (h : AbidF B J) (hB : B ≤ B') : AbidF B' J :=
  fun s A W W' h1 h2 h3 h4 h5 h6 => h s A W W' h1 h2 h3 h4 h5 fun k hk hc => h6 k hk (hc.imp (fun x => by omega) id)
theorem abidF_below {β : Type} {B : Nat} {J : β → (Nat → Prop) → World → Prop} (h : AbidF B J) {s : β} {A : Nat → Prop} {W W' : World} (hj : J s A W) (hb : Below W.heap.size W W') : J s A W' :=
  h s A W W' hj hb.os hb.tape hb.output hb.size fun k hk _ => hb.block k hk
theorem abidF_put {β : Type} {B : Nat} {J : β → (Nat → Prop) → World → Prop} (h : AbidF B J) {s : β} {A : Nat → Prop} {W : World} {l : Nat} (o : Obj) (hj : J s A W) (hB : B ≤ l) (hA : ¬ A l) : J s A (W.putObj l o) :=
  h s A W _ hj rfl rfl rfl (by simp) fun k hk hc => World.putObj_heap_other (fun e => by subst e; rcases hc with hc | hc; omega; exact hA hc)

theorem yieldAt_any {m m' : Nat} {l : Nat} {args : Array Value} {W : World} {R : Ending → World → Prop} (h : YieldAt Fence.wide m P l args W R) : YieldAt Fence.wide m' P l args W R := by
  obtain ⟨fn, tmps, assign, body, hy, hR⟩ := h
  exact ⟨fn, tmps, assign, body, hy, hR.1, fun c cs _ => hR.2 c cs (room_wide _)⟩

/-- An iterator's value hands on the elements of L, one by one, each with blocks of its own (G, from lo on). -/
def EachC {M : Type} (P : Program) (gf : Nat) (lb : Array Value) (L : List M) (Val : Value → M → Nat → (Nat → Prop) → World → Prop) (W : World) (A : Nat → Prop) : Prop :=
  ∀ (l : Nat) (J Jx : List M → (Nat → Prop) → World → Prop), AbidF W.heap.size J → AbidF W.heap.size Jx → (∀ pre A1 W1, J pre A1 W1 → ∀ k, A1 k → k < W1.heap.size) →
    (∀ pre A1 m v lo G W1, J pre A1 W1 → (pre ++ [m]) <+: L → ItStep A A1 W W1 → Val v m lo G W1 → W.heap.size ≤ lo → lo ≤ W1.heap.size → (∀ k, A1 k → k < lo) → (∀ k, G k → lo ≤ k ∧ k < W1.heap.size) → YieldAt Fence.wide 0 P l #[v] W1 fun e W2 =>
      (e = .returned (.bool true) ∧ ∃ A2, J (pre ++ [m]) A2 W2 ∧ ItGive A1 A2 G W1 W2) ∨
      (e = .returned (.bool false) ∧ ∃ A2, Jx (pre ++ [m]) A2 W2 ∧ (W1.heap.size ≤ W2.heap.size ∧ (∀ k, W.heap.size ≤ k → k < W1.heap.size → ¬ A1 k → W2.heap[k]? = W1.heap[k]?) ∧ ∀ k, A2 k → A1 k ∨ G k ∨ W1.heap.size ≤ k))) →
    J [] A W →
    Calls P gf (#[.func (.yield l) #[] #[]] ++ lb) W fun e W2 => (∃ v, e = .returned v) ∧ ∃ A2, (J L A2 W2 ∧ ItStep A A2 W W2) ∨ ∃ pre, pre <+: L ∧ Jx pre A2 W2

/-- How the body of a round may be left. -/
def eachPost {M : Type} (B : Nat) (I : List M → (Nat → Prop) → World → Prop) (Ix : Code → List M → (Nat → Prop) → World → Prop) (xs : List M) (A G : Nat → Prop) (W : World) : Exit → Act → World → Prop
  | .normal, _, W' => ∃ A', I xs A' W' ∧ ItGive A A' G W W'
  | .ret, _, W' => ∃ A', Ix .ret xs A' W' ∧ (W.heap.size ≤ W'.heap.size ∧ (∀ k, B ≤ k → k < W.heap.size → ¬ A k → W'.heap[k]? = W.heap[k]?) ∧ ∀ k, A' k → A k ∨ G k ∨ W.heap.size ≤ k)
  | .exit id, _, W' => ∃ A', Ix (.exit id) xs A' W' ∧ (W.heap.size ≤ W'.heap.size ∧ (∀ k, B ≤ k → k < W.heap.size → ¬ A k → W'.heap[k]? = W.heap[k]?) ∧ ∀ k, A' k → A k ∨ G k ∨ W.heap.size ≤ k)
  | _, _, _ => False

set_option maxHeartbeats 1000000 in
theorem wp_rangeEach {M : Type} {g : Operand} {ps : Array Tmp} {assign body : Code} {Q : Exit → Act → World → Prop} {a : Act} {w : World} {n gf : Nat} {lb : Array Value}
    (hg : a.eval g = .func (.func gf) #[] lb) (eg : ∀ args w, (callFunc gf args).run P w = .ok (.enter gf args) w)
    {L : List M} {Val : Value → M → Nat → (Nat → Prop) → World → Prop} (hVal : ∀ v m lo G W W', Val v m lo G W → W.heap.size ≤ W'.heap.size → (∀ k, G k → W'.heap[k]? = W.heap[k]?) → Val v m lo G W')
    (A0 : Nat → Prop) (hA0 : ∀ k, A0 k → k < w.heap.size) (hseq : ∀ W1 : World, Below w.heap.size w W1 → W1.heap.size = w.heap.size + 2 → EachC P gf lb L Val W1 A0) (hps : ps.size = 1)
    (I : List M → (Nat → Prop) → World → Prop) (Ix : Code → List M → (Nat → Prop) → World → Prop) (hI : AbidF w.heap.size I) (hIx : ∀ c, AbidF w.heap.size (Ix c)) (hIA : ∀ pre A1 W1, I pre A1 W1 → ∀ k, A1 k → k < W1.heap.size) (h0 : I [] A0 w) (a₁ : Value → Act)
    (hassign : ∀ (l : Nat) (v : Value) (m : M) (lo : Nat) (G : Nat → Prop) (W : World) (K : Act → World → Prop), Val v m lo G W → K (a₁ v) W → assign.wpIn (Fence.wide.inRound l) n P (Exit.then K (fun _ _ _ => False)) { tmps := (ps.zip #[v]).foldl (fun t (p, v) => t.setIfInBounds p v) a.tmps, defers := [] } W)
    (hbody : ∀ (l : Nat) (pre : List M) (A : Nat → Prop) (m : M) (v : Value) (lo : Nat) (G : Nat → Prop) (W : World), I pre A W → ItStep A0 A w W → (pre ++ [m]) <+: L → Val v m lo G W → w.heap.size + 2 ≤ lo → lo ≤ W.heap.size → (∀ k, A k → k < lo) → (∀ k, G k → lo ≤ k ∧ k < W.heap.size) → body.wpIn (Fence.wide.inRound l) n P (eachPost w.heap.size I Ix (pre ++ [m]) A G W) (a₁ v) W)
    (hdone : ∀ (A : Nat → Prop) (W : World), I L A W → ItStep A0 A w W → (∀ k, A k → A0 k ∨ w.heap.size + 2 ≤ k) → W.heap[w.heap.size]? = some (.deferred (some [])) → Q .normal { a with defers := { target := .collected w.heap.size, args := #[] } :: a.defers } W)
    (hstop : ∀ (c : Code) (pre : List M) (A : Nat → Prop) (W : World), pre <+: L → Ix c pre A W → (∀ k, A k → A0 k ∨ w.heap.size + 2 ≤ k) → W.heap[w.heap.size]? = some (.deferred (some [])) → c.wpIn Fence.wide n P Q { a with defers := { target := .collected w.heap.size, args := #[] } :: a.defers } W) :
    (Code.rangeFunc g ps assign body).wpIn Fence.wide n P Q a w := by
  refine wpIn_rangeFunc fun fn hfn => ?_
  let rec0 : LoopState → Option Code → Loop := fun st pe => { state := st, pending := pe, fn := fn, tmps := a.tmps, params := ps, assign := assign, body := body, defers := w.heap.size }
  obtain ⟨R, hR⟩ : ∃ R, R = rec0 := ⟨_, rfl⟩
  obtain ⟨U, hU⟩ : ∃ U, U = (w.alloc (.deferred (some []))).alloc (.loop (R .ready none)) := ⟨_, rfl⟩
  have hub : Below w.heap.size w U := by rw [hU]; exact ((Below.refl _ w).alloc (Nat.le_refl _) _).alloc (by simp) _
  have hus : U.heap.size = w.heap.size + 2 := by rw [hU]; simp
  have hul : U.heap[w.heap.size + 1]? = some (.loop (R .ready none)) := by
    rw [hU]; have := World.alloc_heap_new (w.alloc (.deferred (some []))) (.loop (R .ready none)); rwa [World.size_alloc] at this
  have hud : U.heap[w.heap.size]? = some (.deferred (some [])) := by
    rw [hU]; exact (Below.heap_alloc _ _ _ (by simp)).trans (World.alloc_heap_new w _)
  have hui : I [] A0 U := abidF_below hI h0 hub
  refine ⟨w.heap.size + 1, [{ target := .collected w.heap.size, args := #[] }], U, { target := .fn (.func gf) lb, args := #[.func (.yield (w.heap.size + 1)) #[] #[]] }, U, gf, #[.func (.yield (w.heap.size + 1)) #[] #[]] ++ lb, U, ?_, ?_, fun _ _ => trivial, ?_, fun h => (by simp [Fence.wide] at h), ?_⟩
  · rw [hU, hR]; exact run_enterLoop_outer _ _ _ _ _
  · simp only [resolve, hg]
    simp [go_sem]
  · simp [invoke, go_sem, eg]
  refine (callsIn_wide (n := n - 1)).2 ?_
  refine (hseq U hub hus (w.heap.size + 1) (fun pre A W => I pre A W ∧ ItStep A0 A U W ∧ W.heap[w.heap.size + 1]? = some (.loop (R .ready none)) ∧ W.heap[w.heap.size]? = some (.deferred (some [])))
    (fun pre A W => ((∃ c, Ix c pre A W ∧ W.heap[w.heap.size + 1]? = some (.loop (R .done (some c)))) ∧ W.heap[w.heap.size]? = some (.deferred (some []))) ∧ ∀ k, A k → A0 k ∨ U.heap.size ≤ k) ?_ ?_ (fun pre A1 W1 h => hIA pre A1 W1 h.1) ?_ ⟨hui, itStep_refl _ _, hul, hud⟩).mono ?_
  · intro s A W W' hj ho ht hp hs hk
    obtain ⟨h1, h2, h3, h4⟩ := hj
    have hlt := (Array.getElem?_eq_some_iff.1 h3).1
    refine ⟨hI s A W W' h1 ho ht hp hs fun k hk2 hc => hk k hk2 (hc.imp (fun x => by omega) id), ⟨⟨ho.trans h2.1.os, ht.trans h2.1.tape, hp.trans h2.1.output, Nat.le_trans h2.1.size hs, fun k hk2 hn => ?_⟩, h2.2⟩, ?_, ?_⟩
    · rw [hk k (Nat.lt_of_lt_of_le hk2 h2.1.size) (.inl hk2)]; exact h2.1.block k hk2 hn
    · rw [hk _ hlt (.inl (by omega))]; exact h3
    · rw [hk _ (by omega) (.inl (by omega))]; exact h4
  · intro s A W W' hj ho ht hp hs hk
    obtain ⟨⟨⟨c, h1, h3⟩, h4⟩, h5⟩ := hj
    have hlt := (Array.getElem?_eq_some_iff.1 h3).1
    refine ⟨⟨⟨c, hIx c s A W W' h1 ho ht hp hs fun k hk2 hc => hk k hk2 (hc.imp (fun x => by omega) id), ?_⟩, ?_⟩, h5⟩
    · rw [hk _ hlt (.inl (by omega))]; exact h3
    · rw [hk _ (by omega) (.inl (by omega))]; exact h4
  · rintro pre A1 m v lo G W1 ⟨hi, hst, hl, hd⟩ hpre - hv hlo hlo1 hAlo hG
    have hlo2 : w.heap.size + 2 ≤ lo := by omega
    have hlt : w.heap.size + 1 < W1.heap.size := (Array.getElem?_eq_some_iff.1 hl).1
    have hnA : ∀ k, w.heap.size ≤ k → k ≤ w.heap.size + 1 → ¬ A1 k := fun k h1 h2 hA => by
      rcases hst.2 k hA with h3 | h3
      · have := hA0 k h3; omega
      · omega
    have hy := run_yield (P := P) (args := #[v]) hl (by rw [hR]; exact hps.symm)
    rw [hR] at hy
    obtain ⟨V, hV⟩ : ∃ V, V = W1.putObj (w.heap.size + 1) (.loop { R .ready none with state := .busy }) := ⟨_, rfl⟩
    have hVl : V.heap[w.heap.size + 1]? = some (.loop { R .ready none with state := .busy }) := by rw [hV]; exact World.putObj_heap_same hlt
    have hVo : ∀ k, k ≠ w.heap.size + 1 → V.heap[k]? = W1.heap[k]? := fun k hk => by rw [hV]; exact World.putObj_heap_other hk
    have hVs : V.heap.size = W1.heap.size := by rw [hV]; simp
    have hVi : I pre A1 V := by rw [hV]; exact abidF_put hI _ hi (by omega) (hnA _ (by omega) (Nat.le_refl _))
    have hVv : Val v m lo G V := hVal _ _ _ _ W1 V hv (by omega) fun k hk => hVo k (by have := hG k hk; omega)
    have hVe : V.os = W1.os ∧ V.tape = W1.tape ∧ V.output = W1.output := by rw [hV]; exact ⟨rfl, rfl, rfl⟩
    have hVst : ItStep A0 A1 w V := by
      refine ⟨⟨hVe.1.trans (hst.1.os.trans hub.os), hVe.2.1.trans (hst.1.tape.trans hub.tape), hVe.2.2.trans (hst.1.output.trans hub.output), by omega, fun k hk hn => ?_⟩, fun k hA => ?_⟩
      · rw [hVo k (by omega), hst.1.block k (by omega) hn, hub.block k hk]
      · rcases hst.2 k hA with h3 | h3
        · exact .inl h3
        · exact .inr (by omega)
    refine ⟨fn, _, assign, body, hy, ?_⟩
    have hbusy : ∀ W3 : World, V.heap.size ≤ W3.heap.size → (∀ k, w.heap.size ≤ k → k < V.heap.size → ¬ A1 k → W3.heap[k]? = V.heap[k]?) → W3.heap[w.heap.size + 1]? = some (.loop { R .ready none with state := .busy }) ∧ W3.heap[w.heap.size]? = some (.deferred (some [])) ∧ w.heap.size + 1 < W3.heap.size := fun W3 h1 h2 => by
      refine ⟨?_, ?_, by omega⟩
      · rw [h2 _ (by omega) (by omega) (hnA _ (by omega) (Nat.le_refl _))]; exact hVl
      · rw [h2 _ (Nat.le_refl _) (by omega) (hnA _ (Nat.le_refl _) (by omega)), hVo _ (by omega)]; exact hd
    have hleave : ∀ (c : Code) (A' : Nat → Prop) (W3 : World), Ix c (pre ++ [m]) A' W3 → (V.heap.size ≤ W3.heap.size ∧ (∀ k, w.heap.size ≤ k → k < V.heap.size → ¬ A1 k → W3.heap[k]? = V.heap[k]?) ∧ ∀ k, A' k → A1 k ∨ G k ∨ V.heap.size ≤ k) →
        ∃ v' W4, (Instr.endRound (w.heap.size + 1) (some c)).run P W3 = .ok v' W4 ∧ (Ending.returned v' = .returned (.bool false) ∧ ∃ A2, (((∃ c, Ix c (pre ++ [m]) A2 W4 ∧ W4.heap[w.heap.size + 1]? = some (.loop (R .done (some c)))) ∧ W4.heap[w.heap.size]? = some (.deferred (some []))) ∧ ∀ k, A2 k → A0 k ∨ U.heap.size ≤ k) ∧ (W1.heap.size ≤ W4.heap.size ∧ (∀ k, U.heap.size ≤ k → k < W1.heap.size → ¬ A1 k → W4.heap[k]? = W1.heap[k]?) ∧ ∀ k, A2 k → A1 k ∨ G k ∨ W1.heap.size ≤ k)) := by
      rintro c A' W3 hi3 ⟨hs3, hk3, hA3⟩
      obtain ⟨h1, h2, h3⟩ := hbusy W3 hs3 hk3
      have hnA' : ¬ A' (w.heap.size + 1) := fun h => by
        rcases hA3 _ h with h4 | h4 | h4
        · exact hnA _ (by omega) (Nat.le_refl _) h4
        · have := hG _ h4; omega
        · omega
      refine ⟨_, _, run_endRound (P := P) (some c) h1, rfl, A', ⟨⟨⟨c, abidF_put (hIx c) _ hi3 (by omega) hnA', ?_⟩, ?_⟩, fun k hk => ?_⟩, ?_, fun k hk1 hk2 hn => ?_, fun k hk => ?_⟩
      · rw [World.putObj_heap_same h3, hR]; rfl
      · rw [World.putObj_heap_other (by omega)]; exact h2
      · rcases hA3 k hk with h4 | h4 | h4
        · exact hst.2 k h4
        · exact .inr (by have := hG _ h4; omega)
        · exact .inr (by have := hst.1.size; omega)
      · simp; omega
      · rw [World.putObj_heap_other (by omega), hk3 k (by omega) (by omega) hn, hVo k (by omega)]
      · rcases hA3 k hk with h4 | h4 | h4
        · exact .inl h4
        · exact .inr (.inl h4)
        · exact .inr (.inr (by omega))
    have key : RoundIn Fence.wide n P (w.heap.size + 1) fn ((ps.zip #[v]).foldl (fun t (p, v) => t.setIfInBounds p v) a.tmps) assign body W1 (fun e W2 => (e = .returned (.bool true) ∧ ∃ A2, (I (pre ++ [m]) A2 W2 ∧ ItStep A0 A2 U W2 ∧ W2.heap[w.heap.size + 1]? = some (.loop (R .ready none)) ∧ W2.heap[w.heap.size]? = some (.deferred (some []))) ∧ ItGive A1 A2 G W1 W2) ∨
        (e = .returned (.bool false) ∧ ∃ A2, (((∃ c, Ix c (pre ++ [m]) A2 W2 ∧ W2.heap[w.heap.size + 1]? = some (.loop (R .done (some c)))) ∧ W2.heap[w.heap.size]? = some (.deferred (some []))) ∧ ∀ k, A2 k → A0 k ∨ U.heap.size ≤ k) ∧ (W1.heap.size ≤ W2.heap.size ∧ (∀ k, U.heap.size ≤ k → k < W1.heap.size → ¬ A1 k → W2.heap[k]? = W1.heap[k]?) ∧ ∀ k, A2 k → A1 k ∨ G k ∨ W1.heap.size ≤ k))) := by
      refine roundIn_of_wpIn hfn (hassign _ v m lo G W1 _ hv ⟨V, ?_, wpIn_mono (hbody _ pre A1 m v lo G V hVi hVst hpre hVv hlo2 (by rw [hVs]; exact hlo1) hAlo (fun k hk => by rw [hVs]; exact hG k hk)) ?_⟩)
      · rw [hV]; exact run_beginRound hl (by rw [hR])
      · intro e a' W3 hp
        cases e with
        | normal =>
          obtain ⟨A', hi3, hst3⟩ := hp
          obtain ⟨h1, h2, h3⟩ := hbusy W3 hst3.1.size fun k _ hk2 hn => hst3.1.block k hk2 hn
          have hnA' : ¬ A' (w.heap.size + 1) := fun h => by
            rcases hst3.2 _ h with h4 | h4 | h4
            · exact hnA _ (by omega) (Nat.le_refl _) h4
            · have := hG _ h4; omega
            · omega
          have hstep : ItGive A1 A' G W1 (W3.putObj (w.heap.size + 1) (.loop { { R .ready none with state := .busy } with state := if (none : Option Code).isNone then .ready else .done, pending := none })) := by
            refine ⟨⟨hst3.1.os.trans hVe.1, hst3.1.tape.trans hVe.2.1, hst3.1.output.trans hVe.2.2, by have := hst3.1.size; simp; omega, fun k hk hn => ?_⟩, fun k hk => ?_⟩
            · by_cases e : k = w.heap.size + 1
              · subst e
                rw [World.putObj_heap_same h3, hl, hR]; rfl
              · rw [World.putObj_heap_other e, hst3.1.block k (by omega) hn, hVo k e]
            · rcases hst3.2 k hk with h4 | h4 | h4
              · exact .inl h4
              · exact .inr (.inl h4)
              · exact .inr (.inr (by omega))
          refine ⟨_, _, run_endRound (P := P) none h1, .inl ⟨rfl, A', ⟨abidF_put hI _ hi3 (by omega) hnA', itGive_trans hst hstep (fun i hi => by have := hG i hi; omega), ?_, ?_⟩, hstep⟩⟩
          · rw [World.putObj_heap_same h3, hR]; rfl
          · rw [World.putObj_heap_other (by omega)]; exact h2
        | ret =>
          obtain ⟨A', hi3, h3⟩ := hp
          obtain ⟨v', W4, h4, h5⟩ := hleave _ A' W3 hi3 h3
          exact ⟨v', W4, h4, .inr h5⟩
        | exit id =>
          obtain ⟨A', hi3, h3⟩ := hp
          obtain ⟨v', W4, h4, h5⟩ := hleave _ A' W3 hi3 h3
          exact ⟨v', W4, h4, .inr h5⟩
        | goto t => exact hp.elim
        | panic ch => exact hp.elim
        | outgrown => exact hp.elim
    exact ⟨key.1, fun c cs _ => key.2 c cs (room_wide _)⟩
  · rintro e W2 ⟨⟨v, rfl⟩, A2, hfin⟩
    rcases hfin with ⟨⟨hi, hst, hl, hd⟩, -⟩ | ⟨pre, hpre, ⟨⟨c, hi, hl⟩, hd⟩, hA2⟩
    · have hlt : w.heap.size + 1 < W2.heap.size := (Array.getElem?_eq_some_iff.1 hl).1
      have hnA : ∀ k, w.heap.size ≤ k → k ≤ w.heap.size + 1 → ¬ A2 k := fun k h1 h2 hA => by
        rcases hst.2 k hA with h3 | h3
        · have := hA0 k h3; omega
        · omega
      refine ⟨none, _, by have := run_endLoop (P := P) hl (by rw [hR]; simp [rec0]); rw [hR] at this; exact this, hdone A2 _ (abidF_put hI _ hi (by omega) (hnA _ (by omega) (Nat.le_refl _))) ?_ (fun k hk => by rw [← hus]; exact hst.2 k hk) ?_⟩
      · refine ⟨⟨hst.1.os.trans hub.os, hst.1.tape.trans hub.tape, hst.1.output.trans hub.output, by have := hst.1.size; simp; omega, fun k hk hn => ?_⟩, fun k hA => ?_⟩
        · rw [World.putObj_heap_other (by omega), hst.1.block k (by omega) hn, hub.block k hk]
        · rcases hst.2 k hA with h3 | h3
          · exact .inl h3
          · exact .inr (by omega)
      · rw [World.putObj_heap_other (by omega)]; exact hd
    · have hlt : w.heap.size + 1 < W2.heap.size := (Array.getElem?_eq_some_iff.1 hl).1
      have hnA : ¬ A2 (w.heap.size + 1) := fun hA => by
        rcases hA2 _ hA with h3 | h3
        · have := hA0 _ h3; omega
        · omega
      exact ⟨some c, _, by have := run_endLoop (P := P) hl (by rw [hR]; simp [rec0]); rw [hR] at this; exact this, hstop c pre A2 _ hpre (abidF_put (hIx c) _ hi (by omega) hnA) (fun k hk => by rw [← hus]; exact hA2 k hk) (by rw [World.putObj_heap_other (by omega)]; exact hd)⟩
end
end Go.Proofs.Ytpfaaglaeholbaa
/-
  slices.Collect over slices.Values: a copy of the list, in memory of the call's own.
-/
namespace Go.Proofs.Ytpfaaglaeholbaa
open Go.RowKit Go.Shelf
attribute [local go_sem] Oper.semAt_some

set_option maxRecDepth 100000 in
set_option maxHeartbeats 2000000 in
/-- The iterator of slices.Values: the elements in their order, for every body that keeps what lay in w. -/
theorem valuesEach_in (F : Fence) (n : Nat) (hF : F.fn 164) (hro : F.round = none) (hn : 1 ≤ n) (l Bs : Nat) (v : Value) (zs : List Int) (w W : World) (hin : InRow w v zs) (hW : Below w.heap.size w W) (J Jx : List Int → World → Prop)
    (hY : ∀ pre x W, J pre W → pre.length < zs.length → YieldAt F (n - 1) Try.prog l #[.int .i64 x] W fun e W' =>
      (e = .returned (.bool true) ∧ J (pre ++ [x]) W' ∧ Below w.heap.size W W') ∨ (e = .returned (.bool false) ∧ Jx (pre ++ [x]) W'))
    (hBs : W.cell? ⟨Bs, 0, none⟩ = some v) (h0 : J [] W) :
    CallsIn F n Try.prog 164 #[.func (.yield l) #[] #[], .pointer (some ⟨Bs, 0, none⟩)] W fun e W' => (∃ u, e = .returned u) ∧ ((∃ ys, ys = zs ∧ J ys W') ∨ ∃ pre, pre <+: zs ∧ Jx pre W') := by
  obtain ⟨a, c, rfl, hm, hp⟩ := hin
  unfold maxLen at hm
  have HP := hide fun h : zs.length ≠ 0 => hp.resolve_left h
  have HY := hide hY
  obtain ⟨L, hL⟩ : ∃ L, L = zs.length := ⟨_, rfl⟩
  have HL := hide hL
  rw [← hL] at hm hBs
  clear hp hL hY
  refine callsIn_of_wp Try.func164 rfl hF ?_ hro
  simp only [Try.ntmps164, List.size_toArray, List.length_cons, List.length_nil, Nat.reduceAdd, Nat.reduceSub, Array.replicate_succ, Array.replicate_zero, List.push_toArray, List.append_toArray, List.nil_append, List.cons_append]
  gi_wp2
  gi_loopw [7] (fun i wr => ∃ k : Nat, k ≤ L ∧ i = .int .i64 k ∧ J (zs.take k) wr ∧ Below w.heap.size w wr) (fun i _ => L - (intOf i).toNat)
  case atStart => exact ⟨0, Nat.zero_le _, rfl, h0, hW⟩
  case round =>
    obtain ⟨k, hk, rfl, hJ, hB⟩ := hrel
    have HB := hide hB
    clear hB
    by_cases hlt : k < L
    · obtain ⟨g, o, rfl, hg, hc⟩ := HP.out (by have := HL.out; omega)
      have hk' : k < zs.length := by rw [← HL.out]; exact hlt
      have hx := below_cell HB.out hg (hc k hk')
      have HT := hide (show zs.take (k + 1) = zs.take k ++ [zs[k]] from List.take_succ_eq_append_getElem hk')
      obtain ⟨x, hxx⟩ : ∃ x, x = zs[k] := ⟨_, rfl⟩
      rw [← hxx] at hx HT
      clear hxx hc
      obtain ⟨fn, tmps, assign, body, hy, hR⟩ := HY.out _ x wr hJ (by rw [List.length_take]; omega)
      gi_wp2
      refine hR.mono ?_
      rintro e W3 (⟨rfl, hJ3, hk3⟩ | ⟨rfl, hJx3⟩)
      · have HB3 := hide (HB.out.trans hk3)
        have HJ3 := hide (show J (zs.take (k + 1)) W3 by rw [HT.out]; exact hJ3)
        clear hJ3 hk3
        gi_wp2
        go_roundw
        case rel => exact ⟨k + 1, by omega, by go_num, HJ3.out, HB3.out⟩
        case measure => simp [intOf]; omega
      · have HJ3 := hide (show Jx (zs.take (k + 1)) W3 by rw [HT.out]; exact hJx3)
        clear hJx3
        gi_wp2
        refine bodyPost_ret (results_none rfl _ _ _) rfl ?_
        exact ⟨⟨_, rfl⟩, .inr ⟨_, List.take_prefix _ _, HJ3.out⟩⟩
    · have HE : Hid (zs.take k = zs) := hide (List.take_of_length_le (by have := HL.out; omega))
      rw [HE.out] at hJ
      gi_wp2
      go_end0
      exact ⟨⟨_, rfl⟩, .inl ⟨_, rfl, hJ⟩⟩

set_option maxRecDepth 100000 in
set_option maxHeartbeats 2000000 in
theorem appendSeq_in (F : Fence) (n : Nat) (hA : F.fn 166) (hV : F.fn 164) (hro : F.round = none) (hn : 3 ≤ n) (Bs : Nat) (v : Value) (zs : List Int) (w : World) (hin : InRow w v zs) (hlen : zs.length ≤ 2000000) (hB : Bs < w.heap.size) (hc : w.cell? ⟨Bs, 0, none⟩ = some v) :
    CallsIn F n Try.prog 166 #[.slice none 0 0, .func (.func 164) #[] #[.pointer (some ⟨Bs, 0, none⟩)]] w (IntsRes zs w) := by
  have h1 : 1 ≤ n := by omega
  have HI := hide hin
  obtain ⟨i0, hi, hz0, hz1, hz2⟩ := info_parts Try.infoInt
  clear hin
  refine callsIn_of_wp_marks Try.func166 rfl hA ?_ hro
  simp only [Try.ntmps166, List.size_toArray, List.length_cons, List.length_nil, Nat.reduceAdd, Nat.reduceSub, Array.replicate_succ, Array.replicate_zero, List.push_toArray, List.append_toArray, List.nil_append, List.cons_append]
  gi_wp2
  have bO := Boxed.new w 44 (.slice none 0 0)
  have hB0 : Below w.heap.size w (w.alloc (.cells #[.slice none 0 0] 44)) := (Below.refl _ w).alloc (Nat.le_refl _) _
  have hI0 := inRow_below HI.out hB0
  have hc0 := below_cell hB0 hB hc
  refine wpIn_rangeFunc_ownG hro h1 (gf := 164) (lb := #[.pointer (some ⟨Bs, 0, none⟩)]) rfl hV (enters_of Try.func164 (by kernel_rfl) rfl)
    (encs := fun x : Int => #[Value.int .i64 x]) (Kp := Below w.heap.size) (S := fun ys => ys = zs) (Sp := fun pre => pre <+: zs) (N := zs.length) (w0 := w.alloc (.cells #[.slice none 0 0] 44))
    (fun l J Jx W hW _ _ hY h0 => valuesEach_in F (n - 1) hV hro (by omega) l Bs v zs w W HI.out (hB0.trans (hW.mono hB0.size)) J Jx hY (below_cell hW (Nat.lt_of_lt_of_le hB hB0.size) hc0) h0) belowK_t (belowK_b (by simp)) (Below.refl _ _) (fun _ => rfl)
    (fun pre W => (∃ u, Boxed W w.heap.size 44 u ∧ W.ownsRow w.heap.size 3 1 u pre.length (ints pre) ∧ True) ∧ Below w.heap.size w W)
    (fun _ _ _ => False)
    (OwnFrom.and (Own.from (holdsRow_own w.heap.size w.heap.size 44 3 1 (fun pre : List Int => pre.length) (fun pre => ints pre) (fun _ _ => True)) _) (ownFrom_below (Nat.le_refl _) (by simp)))
    (fun _ _ _ _ _ hs _ _ => hs)
    ⟨⟨_, bO, World.ownsRow_nil _ _ _ _, trivial⟩, hB0⟩
    (fun x => { tmps := #[.slice none 0 0, .func (.func 164) #[] #[.pointer (some ⟨Bs, 0, none⟩)], .pointer (some ⟨w.heap.size, 0, none⟩), undef, .slice none 0 0, .int .i64 x, .func (.func 164) #[] #[.pointer (some ⟨Bs, 0, none⟩)], .int .i64 x, undef, undef, undef, undef, undef], defers := [] }) ?assign ?body ?done ?stop
  case assign =>
    intro l x W K hK
    gi_wp2
    exact hK
  case body =>
    rintro l pre x W ⟨⟨u, hv, hrow, -⟩, hBW⟩ hlt
    have hcu := hv.cell
    gi_wp2_with (gi_at_builtin; refine wpListIn_append_own _ rfl _ _ 44 rfl w.heap.size 3 i0 (.int .i64 0) 1 8 Try.underlying44 hi hz0 hz1 hz2 rfl (by decide) _ _ _ rfl (hrow.alloc _) ⟨W.heap.size, 0, none⟩ 1 1 [.int .i64 x] rfl rfl (cell_one_new _ _ _) (by simp [Value.oneCell']) (by unfold maxLen; omega) (by omega) (by have := hBW.size; simp; omega) ?_; intro v' w1 hown' hgrow _; obtain ⟨g', cap', rfl⟩ := ownsRow_succ hown'; obtain ⟨hv1, hv2, hr2, hk2, hb2⟩ := hv.appended (by decide) hrow hBW.size (Nat.le_refl _) hown' hgrow; have hc1 := hv1.cell; have hf1 := hv1.frozen)
    exact ⟨hk2.from _, hb2, ⟨_, hv2, by simpa [ints] using hr2, trivial⟩, hBW.trans hb2⟩
  case done =>
    rintro D ys W hD rfl ⟨⟨u, hv, hrow, -⟩, hBW⟩ hK
    have hcu := hv.cell
    gi_wp2
    refine ⟨by simp, .inl ⟨_, _, rfl, run_takeDeferred hK, ?_⟩⟩
    exact ⟨_, results_tmp rfl _ _ _, _, rfl, ownsRow_putObj hrow _ hK rfl, hBW.trans (belowK_b (w := w) (Nat.le_refl _) W D _ _ (by simp at hD; omega) hK rfl rfl)⟩
  case stop =>
    rintro D c pre W _ _ h _
    exact h.elim

set_option maxHeartbeats 1000000 in
theorem collect_in (F : Fence) (n : Nat) (hC : F.fn 162) (hA : F.fn 166) (hV : F.fn 164) (hro : F.round = none) (hn : 4 ≤ n) (Bs : Nat) (v : Value) (zs : List Int) (w : World) (hin : InRow w v zs) (hlen : zs.length ≤ 2000000) (hB : Bs < w.heap.size) (hc : w.cell? ⟨Bs, 0, none⟩ = some v) :
    CallsIn F n Try.prog 162 #[.func (.func 164) #[] #[.pointer (some ⟨Bs, 0, none⟩)]] w (IntsRes zs w) := by
  have HX := hide (appendSeq_in F (n - 1) hA hV hro (by omega) Bs v zs w hin hlen hB hc)
  have h1 : 1 ≤ n := by omega
  clear hin hc
  refine callsIn_of_wp Try.func162 rfl hC ?_ hro
  simp only [Try.ntmps162, List.size_toArray, List.length_cons, List.length_nil, Nat.reduceAdd, Nat.reduceSub, Array.replicate_succ, Array.replicate_zero, List.push_toArray, List.append_toArray, List.nil_append, List.cons_append]
  gi_wp2_with (gi_at_call 166; refine HX.out.mono ?_; rintro e w' ⟨u, rfl, ho, hb⟩)
  go_ret
  exact ⟨_, rfl, ho, hb⟩
theorem collectVals_any (Bs : Nat) (v : Value) (zs : List Int) (w : World) (hin : InRow w v zs) (hlen : zs.length ≤ 2000000) (hB : Bs < w.heap.size) (hc : w.cell? ⟨Bs, 0, none⟩ = some v) :
    Calls Try.prog 162 #[.func (.func 164) #[] #[.pointer (some ⟨Bs, 0, none⟩)]] w (IntsRes zs w) :=
  (callsIn_wide (n := 4)).1 (collect_in Fence.wide 4 trivial trivial trivial rfl (by omega) Bs v zs w hin hlen hB hc)
end Go.Proofs.Ytpfaaglaeholbaa
/-
  Contracts of the library, at this translation: laid by the shelf, in plain declarations.
-/
namespace Go.Proofs
open Go.Shelf
def Try.sortI_ren : Go.Shelf.Ren := ⟨fun | 6 => 163 | 15 => 168 | 14 => 167 | 28 => 177 | 29 => 178 | 20 => 169 | 21 => 170 | 22 => 171 | 23 => 172 | 24 => 173 | 25 => 174 | 26 => 175 | 27 => 176 | 46 => 179 | 47 => 180 | 48 => 181 | 49 => 182 | 50 => 183 | 57 => 184 | n => n, fun | 22 => 44 | 24 => 3 | 25 => 116 | 3 => 3 | 39 => 133 | 0 => 0 | 53 => 159 | 55 => 161 | 4 => 4 | 46 => 176 | 45 => 175 | 50 => 80 | 5 => 5 | 9 => 9 | 66 => 181 | 70 => 185 | 76 => 187 | 77 => 188 | n => n, fun | n => n⟩
theorem Try.sortI : Go.Proofs.SlLaysF.n6 Try.prog Try.sortI_ren := {
  mixed := by kernel_rfl
  f6 := ⟨Try.f163.name, by decide, Try.func163.trans (congrArg some (by kernel_rfl))⟩
  f14 := ⟨Try.f167.name, by decide, Try.func167.trans (congrArg some (by kernel_rfl))⟩
  f15 := Try.func168.trans (congrArg some (by kernel_rfl))
  f20 := ⟨Try.f169.name, by decide, Try.func169.trans (congrArg some (by kernel_rfl))⟩
  f21 := ⟨Try.f170.name, by decide, Try.func170.trans (congrArg some (by kernel_rfl))⟩
  f22 := ⟨Try.f171.name, by decide, Try.func171.trans (congrArg some (by kernel_rfl))⟩
  f23 := ⟨Try.f172.name, by decide, Try.func172.trans (congrArg some (by kernel_rfl))⟩
  f24 := ⟨Try.f173.name, by decide, Try.func173.trans (congrArg some (by kernel_rfl))⟩
  f25 := ⟨Try.f174.name, by decide, Try.func174.trans (congrArg some (by kernel_rfl))⟩
  f26 := ⟨Try.f175.name, by decide, Try.func175.trans (congrArg some (by kernel_rfl))⟩
  f27 := ⟨Try.f176.name, by decide, Try.func176.trans (congrArg some (by kernel_rfl))⟩
  f28 := Try.func177.trans (congrArg some (by kernel_rfl))
  f29 := Try.func178.trans (congrArg some (by kernel_rfl))
  f46 := ⟨Try.f179.name, by decide, Try.func179.trans (congrArg some (by kernel_rfl))⟩
  f47 := Try.func180.trans (congrArg some (by kernel_rfl))
  f48 := Try.func181.trans (congrArg some (by kernel_rfl))
  f49 := ⟨Try.f182.name, by decide, Try.func182.trans (congrArg some (by kernel_rfl))⟩
  f50 := ⟨Try.f183.name, by decide, Try.func183.trans (congrArg some (by kernel_rfl))⟩
  f57 := ⟨Try.f184.name, by decide, Try.func184.trans (congrArg some (by kernel_rfl))⟩
  t0 := Try.underlying0
  a0 := Try.isAgg0
  z0 := Try.sizeOf0
  v0 := Try.zeroValue0
  t3 := Try.underlying3
  a3 := Try.isAgg3
  z3 := Try.sizeOf3
  v3 := Try.zeroValue3
  t4 := Try.underlying4
  a4 := Try.isAgg4
  z4 := Try.sizeOf4
  v4 := Try.zeroValue4
  t5 := Try.underlying5
  a5 := Try.isAgg5
  z5 := Try.sizeOf5
  v5 := Try.zeroValue5
  t9 := Try.underlying9
  a9 := Try.isAgg9
  z9 := Try.sizeOf9
  v9 := Try.zeroValue9
  t22 := Try.underlying44
  a22 := Try.isAgg44
  z22 := Try.sizeOf44
  v22 := Try.zeroValue44
  a24 := Try.isAgg3
  z24 := Try.sizeOf3
  t25 := Try.underlying116
  a25 := Try.isAgg116
  z25 := Try.sizeOf116
  v25 := Try.zeroValue116
  t39 := Try.underlying133
  a39 := Try.isAgg133
  z39 := Try.sizeOf133
  v39 := Try.zeroValue133
  t45 := Try.underlying175
  a45 := Try.isAgg175
  z45 := Try.sizeOf175
  v45 := Try.zeroValue175
  t46 := Try.underlying176
  a46 := Try.isAgg176
  z46 := Try.sizeOf176
  v46 := Try.zeroValue176
  t50 := Try.underlying80
  a50 := Try.isAgg80
  z50 := Try.sizeOf80
  v50 := Try.zeroValue80
  t53 := Try.underlying159
  a53 := Try.isAgg159
  z53 := Try.sizeOf159
  v53 := Try.zeroValue159
  t55 := Try.underlying161
  a55 := Try.isAgg161
  z55 := Try.sizeOf161
  v55 := Try.zeroValue161
  t66 := Try.underlying181
  a66 := Try.isAgg181
  z66 := Try.sizeOf181
  v66 := Try.zeroValue181
  t70 := Try.underlying185
  a70 := Try.isAgg185
  z70 := Try.sizeOf185
  v70 := Try.zeroValue185
  t76 := Try.underlying187
  a76 := Try.isAgg187
  z76 := Try.sizeOf187
  v76 := Try.zeroValue187
  t77 := Try.underlying188
  a77 := Try.isAgg188
  z77 := Try.sizeOf188
  v77 := Try.zeroValue188 }
end Go.Proofs
/-
  SortedDown of the program: slices.SortedFunc over slices.Values.
-/
namespace Go.Proofs.Ytpfaaglaeholbaa
open Go.RowKit

/-- cmp.Compare on integers. -/
def cmpI (x y : Int) : Int := if x < y then -1 else if y < x then 1 else 0
theorem cmpI_neg (x y : Int) : (cmpI x y < 0) = (x < y) := by
  unfold cmpI
  by_cases h1 : x < y
  · rw [if_pos h1]; simp [h1]
  · rw [if_neg h1]
    by_cases h2 : y < x
    · rw [if_pos h2]; simp; omega
    · rw [if_neg h2]; simp; omega
theorem isNaN_any (x : Int) (w : World) : Calls Try.prog 165 #[.int .i64 x] w fun e w' => e = .returned (.bool false) ∧ w = w' := by
  go_enter Try.func165, Try.ntmps165
  go_wp2
  go_ret
  exact ⟨ret_bool (by simp), rfl⟩
set_option maxHeartbeats 400000 in
theorem compare_any (x y : Int) (w : World) : Calls Try.prog 161 #[.int .i64 x, .int .i64 y] w fun e w' => e = .returned (.int .i64 (cmpI x y)) ∧ w = w' := by
  have H1 := hide fun h : x < y => (show cmpI x y = -1 by rw [cmpI, if_pos h])
  have H2 := hide fun (h : ¬ x < y) (h2 : y < x) => (show cmpI x y = 1 by rw [cmpI, if_neg h, if_pos h2])
  have H3 := hide fun (h : ¬ x < y) (h2 : ¬ y < x) => (show cmpI x y = 0 by rw [cmpI, if_neg h, if_neg h2])
  by_cases h1 : x < y
  · rw [H1.out h1]
    go_enter Try.func161, Try.ntmps161
    go_wp2_with (first | (with_reducible refine (isNaN_any x _).mono ?_; rintro e w' ⟨rfl, rfl⟩) | (with_reducible refine (isNaN_any y _).mono ?_; rintro e w' ⟨rfl, rfl⟩))
    go_ret
    exact ⟨rfl, rfl⟩
  · by_cases h2 : y < x
    · rw [H2.out h1 h2]
      go_enter Try.func161, Try.ntmps161
      go_wp2_with (first | (with_reducible refine (isNaN_any x _).mono ?_; rintro e w' ⟨rfl, rfl⟩) | (with_reducible refine (isNaN_any y _).mono ?_; rintro e w' ⟨rfl, rfl⟩))
      go_ret
      exact ⟨rfl, rfl⟩
    · rw [H3.out h1 h2]
      go_enter Try.func161, Try.ntmps161
      go_wp2_with (first | (with_reducible refine (isNaN_any x _).mono ?_; rintro e w' ⟨rfl, rfl⟩) | (with_reducible refine (isNaN_any y _).mono ?_; rintro e w' ⟨rfl, rfl⟩))
      go_ret
      exact ⟨rfl, rfl⟩
theorem downCmp_any (x y : Int) (w : World) : Calls Try.prog 160 #[.int .i64 x, .int .i64 y] w fun e w' => e = .returned (.int .i64 (cmpI y x)) ∧ w = w' := by
  go_enter Try.func160, Try.ntmps160
  go_wp2_with ((with_reducible refine (compare_any y x _).mono ?_); rintro e w' ⟨rfl, rfl⟩)
  go_ret
  exact ⟨rfl, rfl⟩

def downC (x y : Int) : Int := cmpI y x
theorem downC_lt (x y : Int) : ltOf downC x y = decide (y < x) := by
  unfold ltOf downC; simp only [cmpI_neg]
theorem downC_swo : Go.Sort.SWO (ltOf downC) where
  irrefl x := by rw [downC_lt]; simp
  trans x y z h1 h2 := by rw [downC_lt] at *; simp at *; omega
  ntrans x y z h1 h2 := by rw [downC_lt] at *; simp at *; omega

/-- What the sort leaves of a slice that the call owns. -/
theorem own_sorted {w : World} {base E n g cap : Nat} {r : List Int} (s : List Int) (m : Nat) (os : Array Obj) (h : w.ownsRow base E 1 (.slice (some ⟨g, 0, none⟩) n cap) n (ints r)) (hs : s.length = n) :
    (sortWorld (Value.int .i64) w g 0 m s.toArray os).ownsRow base E 1 (.slice (some ⟨g, 0, none⟩) n cap) n (ints s) ∧ w.grownBy (sortWorld (Value.int .i64) w g 0 m s.toArray os) (some g) := by
  rcases h.2 with ⟨he, _⟩ | ⟨g', cap', cur, he, hbg, hg, hc, hm, hz, ht⟩
  · cases he
  cases he
  have hgl := (Array.getElem?_eq_some_iff.1 hg).1
  have hheap : (sortWorld (Value.int .i64) w g 0 m s.toArray os).heap = w.heap.modify g (Go.Sort.onCells (Go.Sort.putCells (Value.int .i64) 0 s.toArray)) ++ os := rfl
  have hsz : (w.heap.modify g (Go.Sort.onCells (Go.Sort.putCells (Value.int .i64) 0 s.toArray))).size = w.heap.size := Array.size_modify
  have hat : (sortWorld (Value.int .i64) w g 0 m s.toArray os).heap[g]? = some (.cells (Go.Sort.putCells (Value.int .i64) 0 s.toArray cur) E (0, 0)) := by
    rw [hheap, Array.getElem?_append_left (by rw [hsz]; exact hgl), Array.getElem?_modify, if_pos rfl, hg]; rfl
  refine ⟨⟨by rw [ints_len]; omega, .inr ⟨g, cap, _, rfl, hbg, hat, hc, hm, by rw [Go.Sort.putCells, Array.size_mapIdx]; exact hz, ?_⟩⟩, ⟨rfl, rfl, rfl, by rw [hheap, Array.size_append, hsz]; omega, fun k hk hne => ?_⟩⟩
  · apply List.ext_getElem
    · rw [List.length_take, Array.length_toList, Go.Sort.putCells, Array.size_mapIdx, ints_len]; omega
    · intro i h1 h2
      rw [ints_len] at h2
      have h3 := ints_at s i h2
      rw [List.getElem?_eq_getElem (by rw [ints_len]; exact h2)] at h3
      rw [Option.some.inj h3, List.getElem_take, Array.getElem_toList]
      simp only [Go.Sort.putCells, Array.getElem_mapIdx]
      rw [if_pos ⟨Nat.zero_le _, by simp; omega⟩]
      simp [h2]
  · rw [hheap, Array.getElem?_append_left (by rw [hsz]; exact hk), Array.getElem?_modify, if_neg (fun e => hne (by rw [e]))]

set_option maxHeartbeats 1000000 in
theorem sortFunc_any (base : Nat) (v : Value) (r : List Int) (w : World) (h : w.ownsRow base 3 1 v r.length (ints r)) (hr : r.length ≤ 2000000) (hb : base ≤ w.heap.size) :
    Calls Try.prog 163 #[v, .func (.func 160) #[] #[]] w fun e w' => e = .returned (.tuple #[]) ∧ w'.ownsRow base 3 1 v r.length (ints (sortD r)) ∧ Below base w w' := by
  by_cases h0 : r.length = 0
  · obtain rfl : r = [] := List.eq_nil_of_length_eq_zero h0
    obtain ⟨a, c, rfl⟩ := own_none h
    have hcon := AnyF.slices_SortFunc_none (P := Try.prog) (ρ := Try.sortI_ren) { Try.sortI with } a c (.func (.func 160) #[] #[]) w
    change Calls Try.prog 163 _ _ _ at hcon
    refine hcon.mono ?_
    rintro e w' ⟨rfl, rfl⟩
    exact ⟨rfl, by simpa [sortD] using h, Below.refl _ _⟩
  · obtain ⟨g, cap, rfl, hbg, hg, hc, hm, hcell, hfr⟩ := own_some h (by omega)
    have eg : ∀ args w, (callFunc 160 args).run Try.prog w = .ok (.enter 160 args) w := enters_of Try.func160 (by kernel_rfl) rfl
    have hcmp : CmpLays1 Try.prog 160 #[] (Value.int .i64) downC g 0 r.toArray.size w := fun m os dk _ x y =>
      (downCmp_any x y _).mono fun e w' ⟨he, hw⟩ => ⟨he, 0, #[], by rw [← hw, Go.Sort.grow_empty]; rfl⟩
    have hH : Go.Sort.Holds (Value.int .i64) w g 0 r.toArray := fun j hj => by
      have hj' : j < r.length := by simpa using hj
      rw [Nat.zero_add]
      exact ⟨by rw [hcell j hj', ints_at r j hj']; simp [hj'], hfr j⟩
    have hcon := Any.slices_SortFunc_total Try.sortI (Value.int .i64) (fun _ => rfl) downC downC_swo 160 #[] g 0 cap r.toArray w eg hcmp hH hg (by simp; omega)
      (fun x y h1 h2 => by rw [downC_lt] at h1 h2; simp at h1 h2; omega)
    change Calls Try.prog 163 _ _ _ at hcon
    rw [List.size_toArray] at hcon
    refine hcon.mono ?_
    rintro e w' ⟨rfl, m, os, rfl⟩
    have hs : (r.mergeSort fun x y => !ltOf downC y x) = sortD r := by
      rw [sortD]; congr 1; funext x y; rw [downC_lt]; by_cases hxy : x < y
      · rw [decide_eq_true hxy, decide_eq_false (by omega)]; rfl
      · rw [decide_eq_false hxy, decide_eq_true (by omega)]; rfl
    dsimp only
    rw [hs]
    obtain ⟨k1, k2⟩ := own_sorted (sortD r) m os h (sortD_len r)
    exact ⟨rfl, k1, (Below.refl _ _).grown k2 hb (fun k hk => by cases hk; exact hbg)⟩

theorem values_any (a : Option Addr) (n c : Nat) (w : World) :
    Calls Try.prog 159 #[.slice a n c] w fun e w' => e = .returned (.func (.func 164) #[] #[.pointer (some ⟨w.heap.size, 0, none⟩)]) ∧ w' = w.alloc (.cells #[.slice a n c] 44) := by
  go_enter Try.func159, Try.ntmps159
  go_wp2
  go_ret
  exact ⟨rfl, rfl⟩
set_option maxHeartbeats 400000 in
theorem sortedFunc_any (Bs : Nat) (v : Value) (r : List Int) (w : World) (hin : InRow w v r) (hr : r.length ≤ 2000000) (hB : Bs < w.heap.size) (hc : w.cell? ⟨Bs, 0, none⟩ = some v) :
    Calls Try.prog 158 #[.func (.func 164) #[] #[.pointer (some ⟨Bs, 0, none⟩)], .func (.func 160) #[] #[]] w (IntsRes (sortD r) w) := by
  have HX := hide (collectVals_any Bs v r w hin hr hB hc)
  clear hin hc
  go_enter Try.func158, Try.ntmps158
  go_wp2_with fail
  refine HX.out.mono ?_
  rintro e w1 ⟨u, rfl, ho, hb⟩
  have HS := hide (sortFunc_any w.heap.size u r w1 ho hr hb.size)
  have HB := hide hb
  clear ho hb
  go_wp2_with fail
  refine HS.out.mono ?_
  rintro e w2 ⟨rfl, ho, hb⟩
  have HO := hide ho; have HB2 := hide (HB.out.trans hb)
  clear ho hb
  go_wp2
  go_ret
  exact ⟨_, rfl, by rw [sortD_len]; exact HO.out, HB2.out⟩
set_option maxHeartbeats 400000 in
theorem implSortedDown_any (v : Value) (l : List Int) (w : World) (hin : InRow w v l) (hl : l.length ≤ 1048576) :
    Calls Try.prog 152 #[v] w (IntsRes (sortD l) w) := by
  have hb := (Below.refl w.heap.size w).alloc (Nat.le_refl _) (.cells #[v] 44)
  have HX := hide (sortedFunc_any w.heap.size v l _ (inRow_below hin hb) (by omega) (by simp) (show (w.alloc (.cells #[v] 44)).cell? ⟨w.heap.size, 0, none⟩ = some v by simp [World.cell?_alloc_new]))
  have HB := hide hb
  obtain ⟨a, c, rfl, -, -⟩ := hin
  clear hb
  go_enter Try.func152, Try.ntmps152
  go_wp2_with fail
  refine (values_any a _ c _).mono ?_
  rintro e w1 ⟨rfl, rfl⟩
  go_wp2_with fail
  refine HX.out.mono ?_
  rintro e w2 ⟨u, rfl, ho, hb⟩
  have HO := hide (own_base ho HB.out.size); have HB2 := hide (HB.out.trans (hb.mono HB.out.size))
  clear ho hb
  go_wp2
  go_ret
  exact ⟨_, rfl, HO.out, HB2.out⟩
end Go.Proofs.Ytpfaaglaeholbaa
/-
  Worlds that have grown: some draws, some blocks laid behind.
-/
namespace Go.Proofs.Ytpfaaglaeholbaa
open Go.RowKit

/-- After some draws, with some blocks laid behind. -/
def GrownW (w w' : World) : Prop := ∃ q os, w' = Go.Sort.grow (w.drewN q) os
theorem grownW_refl (w : World) : GrownW w w := ⟨0, #[], by rw [Go.Sort.grow_empty]; rfl⟩
theorem grownW_grow (w : World) (q : Nat) (os : Array Obj) : GrownW w (Go.Sort.grow (w.drewN q) os) := ⟨q, os, rfl⟩
theorem grownW_trans {a b c : World} (h : GrownW a b) (k : GrownW b c) : GrownW a c := by
  obtain ⟨q, os, rfl⟩ := h
  obtain ⟨p, os', rfl⟩ := k
  exact ⟨q + p, os ++ os', by show Go.Sort.grow (Go.Sort.grow ((a.drewN q).drewN p) os) os' = _; rw [Go.Sort.grow_grow, World.drewN_drewN]⟩
theorem grownW_alloc (w : World) (o : Obj) : GrownW w (w.alloc o) := ⟨0, #[o], by rw [Go.Sort.alloc_eq_grow]; rfl⟩
theorem grownW_below {w w' : World} (h : GrownW w w') : Below w.heap.size w w' := by
  obtain ⟨q, os, rfl⟩ := h
  refine ⟨rfl, rfl, rfl, ?_, fun k hk => ?_⟩
  · show w.heap.size ≤ (w.heap ++ os).size
    rw [Array.size_append]; omega
  · show (w.heap ++ os)[k]? = _
    rw [Array.getElem?_append_left hk]
theorem quiet_of {P : Program} {f : FuncId} {args : Array Value} {w : World} {n : Nat} {os : Array Obj} {v : Value} (h : Calls P f args (Go.Sort.grow (w.drewN n) os) fun e w' => e = .returned v ∧ GrownW (Go.Sort.grow (w.drewN n) os) w') :
    Calls P f args (Go.Sort.grow (w.drewN n) os) fun e w'' => e = .returned v ∧ ∃ p : GrownBy, w'' = Go.Sort.grow (w.drewN p.n) p.os := Calls.grown_of h
end Go.Proofs.Ytpfaaglaeholbaa
/-
  The bounds of chapter 5: slack, isBroken, and the comparison by slack.
-/
namespace Go.Proofs.Ytpfaaglaeholbaa
open Go.RowKit

/-- A bound in a variable. -/
def BoundAt (w : World) (g : Nat) (s m : Int) : Prop := w.heap[g]? = some (.cells #[.int .i64 s, .int .i64 m] 153 (0, 0))
theorem boundAt_below {w w' : World} {g : Nat} {s m : Int} (h : BoundAt w g s m) (hb : Below w.heap.size w w') : BoundAt w' g s m := by
  unfold BoundAt; rw [hb.block g (Array.getElem?_eq_some_iff.1 h).1]; exact h
theorem boundAt_cells {w : World} {g : Nat} {s m : Int} (h : BoundAt w g s m) : w.cell? ⟨g, 0, none⟩ = some (.int .i64 s) ∧ w.cell? ⟨g, 1, none⟩ = some (.int .i64 m) :=
  ⟨by rw [cell_of_row w g 0 _ _ _ h]; rfl, by rw [cell_of_row w g 1 _ _ _ h]; rfl⟩
theorem boundAt_frozen {w : World} {g : Nat} {s m : Int} (h : BoundAt w g s m) : w.frozen? ⟨g, 0, none⟩ = false ∧ w.frozen? ⟨g, 1, none⟩ = false := by
  unfold BoundAt at h
  simp [World.frozen?, h]
theorem Try.sizeBound : (Try.prog.info? 153).map (·.size) = some 2 := by kernel_rfl
theorem wpList_loadBound {ops : Array Oper} {rest : List Oper} {o : Oper} {a : Act} {Q : Exit → Act → World → Prop} {W : World} {g : Nat} {s m : Int} (hb : BoundAt W g s m)
    (hgd : o.guard = none) (x : Operand) (ho : o.op = .load 153 x) (hx : a.eval x = .pointer (some ⟨g, 0, none⟩))
    (h : wpList Try.prog ops Q rest (a.put o.dst (.agg #[.int .i64 s, .int .i64 m])) W) : wpList Try.prog ops Q (o :: rest) a W :=
  wpList_load_row hgd _ x ho g hx _ _ (0, 0) _ hb Try.underlying153 rfl Try.sizeBound h

set_option maxHeartbeats 400000 in
theorem slack_any (s m : Int) (w : World) (hs : 0 ≤ s ∧ s ≤ 25) (hm : 0 ≤ m ∧ m ≤ 25) :
    Calls Try.prog 155 #[.agg #[.int .i64 s, .int .i64 m]] w fun e w' => e = .returned (.int .i64 (m - s)) ∧ GrownW w w' := by
  obtain ⟨s1, s2⟩ := hs
  obtain ⟨m1, m2⟩ := hm
  go_enter Try.func155, Try.ntmps155
  go_wp2
  go_ret
  exact ⟨rfl, grownW_alloc _ _⟩
set_option maxHeartbeats 400000 in
theorem isBroken_any (s m : Int) (w : World) (hs : 0 ≤ s ∧ s ≤ 25) (hm : 0 ≤ m ∧ m ≤ 25) :
    Calls Try.prog 147 #[.agg #[.int .i64 s, .int .i64 m]] w fun e w' => e = .returned (.bool (decide (m - s < 0))) ∧ Below w.heap.size w w' := by
  have HG := hide (show BoundAt (w.alloc (.cells #[.int .i64 s, .int .i64 m] 153)) w.heap.size s m from heap_alloc_new w _)
  have HSL := hide fun w => slack_any s m w hs hm
  go_enter Try.func147, Try.ntmps147
  go_wp2_with (first | (with_reducible refine wpList_loadBound HG.out rfl _ rfl rfl ?_) | ((with_reducible refine (HSL.out _).mono ?_); rintro e w1 ⟨rfl, hg⟩; have HB := hide (grownW_below (grownW_trans (grownW_alloc _ _) hg)); clear hg))
  go_ret
  exact ⟨rfl, HB.out⟩
theorem load_bound {w : World} {g : Nat} {s m : Int} (h : BoundAt w g s m) (n : Nat) (os : Array Obj) : BoundAt (Go.Sort.grow (w.drewN n) os) g s m := boundAt_below h (grownW_below ⟨n, os, rfl⟩)
end Go.Proofs.Ytpfaaglaeholbaa
