/-
  Texts of this claim, one behind the other: Swd, IMap, Pairs, Sws, SrA, Srch, Pth, Path, SwH, Rev, PTo, Fnd, PToS, SpecP.
-/
import Derived.Test.YtcliiefedmiokaaGreatPackS
import Derived.DeepKeys5
import Derived.Maps.OwnSet
import Derived.Test.YtcliiefedmiokaaGreatPackH
import Derived.Test.YtcliiefedmiokaaGreatPackI
import Derived.Test.YtcliiefedmiokaaGreatPackG
import Derived.Deep.MidRow
import Derived.WalkMore
import Derived.Deep.LoopGhost
import Derived.Test.YtcliiefedmiokaaGreatPackA
import Derived.Test.YtcliiefedmiokaaGreatPackD
import Derived.RegionTactic
import Derived.BigRegion
import Derived.Test.YtcliiefedmiokaaGreatPackN
import Derived.Test.YtcliiefedmiokaaGreatPackM
/-
  switched of the program: an image after one of its switches.
-/
namespace Go.Proofs.YtcliiefedmiokaaGreat
open Go.RowKit

def pickN (a b i : Nat) : Nat := if i = 0 then a else b
def flipAt (F : Nat → Int) (p : Nat) : Nat → Int := fun j => if j = p then 1 - F p else F j
/-- The cells after the first n of the four. -/
def stepF (F : Nat → Int) (a b c d : Nat) : Nat → Nat → Int
  | 0 => F
  | n + 1 => flipAt (stepF F a b c d n) (5 * pickN a b (n / 2) + pickN c d (n % 2))
theorem stepF_small {F : Nat → Int} (h : ∀ i, F i = -1 ∨ F i = 0 ∨ F i = 1) (a b c d : Nat) : ∀ n i : Nat, -((n : Int) + 1) ≤ stepF F a b c d n i ∧ stepF F a b c d n i ≤ (n : Int) + 2
  | 0, i => by have := h i; unfold stepF; omega
  | n + 1, i => by
    have h1 := stepF_small h a b c d n i
    have h2 := stepF_small h a b c d n (5 * pickN a b (n / 2) + pickN c d (n % 2))
    unfold stepF flipAt
    split <;> omega
theorem stepF_all {F : Nat → Int} {a b c d : Nat} (hab : a ≠ b) (hcd : c ≠ d) (hc : c < 5) (hd : d < 5) : ∀ i, i < 25 → stepF F a b c d 4 i = if (i / 5 = a ∨ i / 5 = b) ∧ (i % 5 = c ∨ i % 5 = d) then 1 - F i else F i := by
  intro i hi
  have e : stepF F a b c d 4 = flipAt (flipAt (flipAt (flipAt F (5 * a + c)) (5 * a + d)) (5 * b + c)) (5 * b + d) := rfl
  rw [e]
  unfold flipAt
  by_cases h1 : i = 5 * a + c
  · subst h1
    rw [if_neg (by omega), if_neg (by omega), if_neg (by omega), if_pos rfl, if_pos (by omega)]
  · by_cases h2 : i = 5 * a + d
    · subst h2
      rw [if_neg (by omega), if_neg (by omega), if_pos rfl, if_neg (by omega), if_pos (by omega)]
    · by_cases h3 : i = 5 * b + c
      · subst h3
        rw [if_neg (by omega), if_pos rfl, if_neg (by omega), if_neg (by omega), if_pos (by omega)]
      · by_cases h4 : i = 5 * b + d
        · subst h4
          rw [if_pos rfl, if_neg (by omega), if_neg (by omega), if_neg (by omega), if_pos (by omega)]
        · rw [if_neg h4, if_neg h3, if_neg h2, if_neg h1, if_neg (by omega)]
theorem stepF_img {R C : Nat} {f : Nat → Nat → Int} {a b c d : Nat} (h : four R C f a b c d = true) (hC : C ≤ 5) : ∀ i, i < 25 → stepF (imgF R C f) a b c d 4 i = imgF R C (flipN f a b c d) i := by
  obtain ⟨h1, h2, h3, h4, -⟩ := four_iff.1 h
  intro i hi
  rw [stepF_all (by omega) (by omega) (by omega) (by omega) i hi]
  unfold imgF flipN
  by_cases hh : i / 5 < R ∧ i % 5 < C
  · rw [if_pos hh, if_pos hh]
  · rw [if_neg hh, if_neg hh, if_neg]
    omega
theorem vec_two (a b : Nat) : #[Value.int .i64 (a : Int), Value.int .i64 (b : Int)] = vec 2 fun i => ((pickN a b i : Nat) : Int) := rfl
theorem swAt_set {w : World} {g : Nat} {s : Sw} (h : SwAt w g s) (a : Addr) (v : Value) (hne : g ≠ a.block) : SwAt (w.setCell a v) g s := by
  unfold SwAt; rw [heap_setCell_other w a g v hne]; exact h
theorem exec_indexAt {P : Program} {ρ : Operand → Value} {o : Oper} {w : World} {x i : Operand} {T E : TypeId} {g b m s : Nat} (k q : Nat) (ho : o.op = .indexAddr T x i) (hx : ρ x = .pointer (some ⟨g, b, none⟩)) (hi : ρ i = .int .i64 k) (hu : P.underlying T = some (.array m E)) (hs : ∀ w, (sizeOf E).run P w = .ok s w) (hk : k < m) (hq : b + k * s = q) :
    (execOp ρ o).run P w = .ok (.value (.pointer (some ⟨g, q, none⟩))) w := by
  subst hq
  unfold execOp
  simp only [ho, hx, hi, Instr.indexAt, Instr.sureAddr, Sem.run_bind, asIntOf, Sem.run_pure, Result.andThen_ok, run_underlying hu]
  rw [if_pos ⟨by omega, by omega⟩]
  simp only [Sem.run_bind, hs, Result.andThen_ok, Int.toNat_natCast, addr_add]
  simp
theorem exec_storeInt {ρ : Operand → Value} {o : Oper} {w : World} {x y : Operand} {g k : Nat} {u v : Int} (ho : o.op = .store 3 x y) (hx : ρ x = .pointer (some ⟨g, k, none⟩)) (hy : ρ y = .int .i64 v) (h1 : w.cell? ⟨g, k, none⟩ = some (.int .i64 u)) (f1 : w.frozen? ⟨g, k, none⟩ = false) :
    (execOp ρ o).run Tryz.prog w = .ok .skip (w.setCell ⟨g, k, none⟩ (.int .i64 v)) := by
  unfold execOp
  simp only [ho, hx, hy]
  go_simp

end Go.Proofs.YtcliiefedmiokaaGreat
/-
  A map of switches keyed by images, told by its entries.
-/
namespace Go.Proofs.YtcliiefedmiokaaGreat
open Go.RowKit
set_option maxRecDepth 100000

theorem Tryz.laidOutM : laidOutB Tryz.prog = true := by kernel_rfl
theorem Tryz.keyTyM : Tryz.prog.keyType 84 = true := by kernel_rfl
theorem Tryz.cellsImg : Tryz.prog.cellsOf 84 = 25 := by kernel_rfl
theorem Tryz.cellsRow5 : Tryz.prog.cellsOf 82 = 5 := by kernel_rfl
theorem Tryz.cellsI : Tryz.prog.cellsOf 3 = 1 := by kernel_rfl
theorem Tryz.imgLaw : Maps.Keyed Tryz.prog 84 := Maps.Keyed.of_law (deep_law_gate Tryz.laidOutM (of_decide_eq_true (by kernel_rfl)) (of_decide_eq_true (by kernel_rfl)) Tryz.keyTyM (by rw [Tryz.underlying84]))
theorem mapM_some {α β : Type} (f : α → Option β) : ∀ l : List α, (∀ x ∈ l, ∃ y, f x = some y) → ∃ ys, l.mapM f = some ys
  | [], _ => ⟨[], rfl⟩
  | x :: l, h => by
    obtain ⟨y, hy⟩ := h x (by simp)
    obtain ⟨ys, hys⟩ := mapM_some f l fun z hz => h z (by simp [hz])
    exact ⟨y :: ys, by simp [List.mapM_cons, hy, hys]⟩
theorem intLitM (d : Nat) (x : Int) (h : (Lit.int .i64 x).wf = true) : ∃ l, Tryz.prog.keyLits (d + 1) 3 [.int .i64 x] = some l := by
  unfold Program.keyLits
  rw [Tryz.underlying3]
  exact ⟨_, if_pos ⟨rfl, h⟩⟩
theorem rowLitM (d : Nat) (F : Nat → Int) (h : ∀ i, (Lit.int .i64 (F i)).wf = true) : ∃ l, Tryz.prog.keyLits (d + 2) 82 (vecL 5 F) = some l := by
  unfold Program.keyLits
  rw [Tryz.underlying82]
  simp only [Tryz.cellsRow5, Tryz.cellsI, vecL_len, if_true]
  obtain ⟨ys, hys⟩ := mapM_some (fun i => Tryz.prog.keyLits (d + 1) 3 (((vecL 5 F).drop (i * 1)).take 1)) (List.range 5) fun i hi => by
    have hi' := List.mem_range.1 hi
    have e : ((vecL 5 F).drop (i * 1)).take 1 = [.int .i64 (F i)] := by
      apply List.ext_getElem
      · simp [vecL]; omega
      · intro j h1 h2
        obtain rfl : j = 0 := by simp at h2; omega
        simp [vecL]
    obtain ⟨l, hl⟩ := intLitM d (F i) (h i)
    exact ⟨l, by rw [e]; exact hl⟩
  exact ⟨ys.flatten, by rw [hys]; rfl⟩
theorem imgLitM (d : Nat) (F : Nat → Int) (h : ∀ i, (Lit.int .i64 (F i)).wf = true) : ∃ l, Tryz.prog.keyLits (d + 3) 84 (vecL 25 F) = some l := by
  unfold Program.keyLits
  rw [Tryz.underlying84]
  simp only [Tryz.cellsImg, Tryz.cellsRow5, vecL_len, if_true]
  obtain ⟨ys, hys⟩ := mapM_some (fun i => Tryz.prog.keyLits (d + 2) 82 (((vecL 25 F).drop (i * 5)).take 5)) (List.range 5) fun i hi => by
    have hi' := List.mem_range.1 hi
    have e : ((vecL 25 F).drop (i * 5)).take 5 = vecL 5 fun j => F (i * 5 + j) := by
      apply List.ext_getElem
      · simp [vecL]; omega
      · intro j h1 h2
        simp [vecL]
    obtain ⟨l, hl⟩ := rowLitM d (fun j => F (i * 5 + j)) fun j => h _
    exact ⟨l, by rw [e]; exact hl⟩
  exact ⟨ys.flatten, by rw [hys]; rfl⟩
/-- Cells of an image. -/
def WfI (F : Nat → Int) : Prop := ∀ i, F i = -1 ∨ F i = 0 ∨ F i = 1
theorem wfI_lit {F : Nat → Int} (h : WfI F) (i : Nat) : (Lit.int .i64 (F i)).wf = true := by
  rcases h i with e | e | e <;> rw [e] <;> decide
theorem img_key {F : Nat → Int} (h : WfI F) : ∃ l, keyOf Tryz.prog 84 (.agg (vec 25 F)) = some l := by
  have hs : ∃ d, Tryz.prog.types.size + 1 = d + 3 := ⟨Tryz.prog.types.size - 2, by have : 3 ≤ Tryz.prog.types.size := of_decide_eq_true (by kernel_rfl); omega⟩
  obtain ⟨d, hd⟩ := hs
  obtain ⟨L, hL⟩ := imgLitM d F (wfI_lit h)
  have hf : (Value.agg (vec 25 F)).formed Tryz.prog 84 = true := by
    simp [Value.formed, Tryz.underlying84, Tryz.cellsImg, vec_size]
  have hc : (Value.agg (vec 25 F)).cells.toList = vecL 25 F := by simp [Value.cells, vec]
  refine ⟨.string (keyBytes L), ?_⟩
  unfold keyOf
  rw [Tryz.underlying84]
  simp only [Tryz.keyTyM, hf, Bool.and_self, if_true, hc, hd, hL, Option.map_some]
/-- The map in block b holds these entries, in this order. -/
def ImgMap (w : World) (b : Nat) (ks : List ((Nat → Int) × Sw)) : Prop :=
  ∃ (es : Array MapEntry) (clock : Nat), w.heap[b]? = some (.map es clock) ∧ es.toList.map (fun e => (e.key, e.val)) = (ks.map fun p => (Value.agg (vec 25 p.1), swV p.2)) ∧ MapKept.Stamped es clock
theorem imgMap_lt {w : World} {b : Nat} {ks : List ((Nat → Int) × Sw)} (h : ImgMap w b ks) : b < w.heap.size := by
  obtain ⟨es, c, hb, -⟩ := h
  exact (Array.getElem?_eq_some_iff.1 hb).1
theorem imgMap_heap {w w' : World} {b : Nat} {ks : List ((Nat → Int) × Sw)} (h : ImgMap w b ks) (e : w'.heap[b]? = w.heap[b]?) : ImgMap w' b ks := by
  obtain ⟨es, c, hb, hk⟩ := h
  exact ⟨es, c, e.trans hb, hk⟩
theorem imgMap_below {w w' : World} {b : Nat} {ks : List ((Nat → Int) × Sw)} (h : ImgMap w b ks) (hb : Below w.heap.size w w') : ImgMap w' b ks := imgMap_heap h (hb.block b (imgMap_lt h))
theorem imgMap_grown {w w' : World} {b : Nat} {ks : List ((Nat → Int) × Sw)} {row : Option Nat} (h : ImgMap w b ks) (hg : w.grownBy w' row) (hr : row ≠ some b) : ImgMap w' b ks := imgMap_heap h (hg.block b (imgMap_lt h) (Ne.symm hr))
theorem imgMap_made (w : World) : ImgMap (w.alloc (.map #[] 0)) w.heap.size [] := ⟨#[], 0, heap_alloc_new w _, rfl, MapKept.stamped_empty 0⟩
theorem own_not_map {w : World} {b1 e1 n1 z1 b : Nat} {v1 : Value} {xs : List Value} {ks : List ((Nat → Int) × Sw)} (h1 : w.ownsRow b1 e1 z1 v1 n1 xs) (h2 : ImgMap w b ks) : v1.ownBlock ≠ some b := by
  obtain ⟨es, c, hb, -⟩ := h2
  rcases h1.2 with ⟨rfl, _⟩ | ⟨g1, c1, cur1, rfl, _, hg1, _⟩
  · simp [Value.ownBlock]
  · intro e
    simp only [Value.ownBlock, Option.some.injEq] at e
    subst e
    rw [hg1] at hb; cases hb
theorem imgMap_keys {es : Array MapEntry} {ks : List ((Nat → Int) × Sw)} (hk : es.toList.map (fun e => (e.key, e.val)) = ks.map fun p => (Value.agg (vec 25 p.1), swV p.2)) (hw : ∀ p ∈ ks, WfI p.1) : ∀ e ∈ es.toList, ∃ l, keyOf Tryz.prog 84 e.key = some l := by
  intro e he
  have h1 : (e.key, e.val) ∈ es.toList.map (fun e => (e.key, e.val)) := List.mem_map.2 ⟨e, he, rfl⟩
  rw [hk] at h1
  obtain ⟨p, hp, hpe⟩ := List.mem_map.1 h1
  simp only [Prod.mk.injEq] at hpe
  obtain ⟨l, hl⟩ := img_key (hw p hp)
  exact ⟨l, by rw [← hpe.1]; exact hl⟩
end Go.Proofs.YtcliiefedmiokaaGreat
/-
  pairsBelow of the program: all pairs of numbers below 5, in order.
-/
namespace Go.Proofs.YtcliiefedmiokaaGreat
open Go.RowKit

def cellsP (l : List (Nat × Nat)) : List Value := l.flatMap fun p => [.int .i64 (p.1 : Int), .int .i64 (p.2 : Int)]
theorem cellsP_snoc (l : List (Nat × Nat)) (a b : Nat) : cellsP (l ++ [(a, b)]) = cellsP l ++ #[Value.int .i64 (a : Int), .int .i64 (b : Int)].toList := by simp [cellsP]
/-- The pairs up to a number. -/
def upP (k : Nat) : List (Nat × Nat) := ((List.range k).filter fun c => decide (c / 5 < c % 5)).map fun c => (c / 5, c % 5)
theorem upP_yes {k : Nat} (h : k / 5 < k % 5) : upP (k + 1) = upP k ++ [(k / 5, k % 5)] := by
  unfold upP; rw [List.range_succ, List.filter_append, List.map_append]; simp [h]
theorem upP_no {k : Nat} (h : ¬ k / 5 < k % 5) : upP (k + 1) = upP k := by
  unfold upP; rw [List.range_succ, List.filter_append, List.map_append]; simp [h]
theorem upP_skip {k l : Nat} (hkl : k ≤ l) (h : ∀ i, k ≤ i → i < l → ¬ i / 5 < i % 5) : upP l = upP k := by
  induction l with
  | zero => obtain rfl : k = 0 := by omega
            rfl
  | succ l ih =>
    by_cases e : k = l + 1
    · rw [e]
    · rw [upP_no (h l (by omega) (by omega)), ih (by omega) fun i h1 h2 => h i h1 (by omega)]
theorem upP_len (k : Nat) : (upP k).length ≤ k := by
  unfold upP; rw [List.length_map]
  exact Nat.le_trans (List.length_filter_le _ _) (by rw [List.length_range]; exact Nat.le_refl _)
end Go.Proofs.YtcliiefedmiokaaGreat
/-
  switches of the program: all switches of an image, in order.
-/
namespace Go.Proofs.YtcliiefedmiokaaGreat
open Go.RowKit

def kp (p : Nat) : Nat := [1, 2, 3, 4, 7, 8, 9, 13, 14, 19].getD p 25
theorem pairs_len : (upP 25).length = 10 := by decide +kernel
theorem pairs_at : ∀ p, p < 10 → (upP 25)[p]? = some (kp p / 5, kp p % 5) := by decide +kernel
theorem kp_in : ∀ p, p < 10 → kp p < 25 ∧ kp p / 5 < kp p % 5 := by decide +kernel
theorem kp_next : ∀ p, p < 10 → kp p < kp (p + 1) ∧ kp (p + 1) ≤ 25 ∧ ∀ c, c < 25 → kp p < c → c < kp (p + 1) → ¬ c / 5 < c % 5 := by decide +kernel
theorem kp_zero : kp 0 = 1 := rfl
theorem kp_ten : kp 10 = 25 := rfl
theorem cellsP_at : ∀ (l : List (Nat × Nat)) (i a b : Nat), l[i]? = some (a, b) → (cellsP l)[i * 2]? = some (.int .i64 (a : Int)) ∧ (cellsP l)[i * 2 + 1]? = some (.int .i64 (b : Int))
  | [], i, a, b, h => by simp at h
  | p :: l, 0, a, b, h => by
    simp only [List.getElem?_cons_zero, Option.some.injEq] at h
    subst h
    exact ⟨rfl, rfl⟩
  | p :: l, i + 1, a, b, h => by
    have := cellsP_at l i a b (by simpa using h)
    have e : cellsP (p :: l) = [.int .i64 (p.1 : Int), .int .i64 (p.2 : Int)] ++ cellsP l := by simp [cellsP]
    rw [e]
    refine ⟨?_, ?_⟩
    · rw [List.getElem?_append_right (by simp; omega)]
      simpa [show (i + 1) * 2 - 2 = i * 2 by omega] using this.1
    · rw [List.getElem?_append_right (by simp; omega)]
      simpa [show (i + 1) * 2 + 1 - 2 = i * 2 + 1 by omega] using this.2
theorem swB_order {m : List (List Int)} {i : Nat} (h : ¬ (i / 125 < i / 25 % 5 ∧ i / 5 % 5 < i % 5)) : swB m (decS i) = false := by
  rw [Bool.eq_false_iff]
  intro e
  obtain ⟨a, b, c, d, e1, h1⟩ := swF_iff.1 e
  obtain ⟨h2, h3, -⟩ := four_iff.1 h1
  unfold decS at e1
  simp only [Sw.mk.injEq] at e1
  omega
theorem dec_pair (p q : Nat) (hq : q < 25) : decS (25 * p + q) = ⟨((p / 5 : Nat) : Int), ((p % 5 : Nat) : Int), ((q / 5 : Nat) : Int), ((q % 5 : Nat) : Int)⟩ := by
  unfold decS
  rw [show (25 * p + q) / 125 = p / 5 by omega, show (25 * p + q) / 25 % 5 = p % 5 by omega, show (25 * p + q) / 5 % 5 = q / 5 by omega, show (25 * p + q) % 5 = q % 5 by omega]
theorem upS_in (m : List (List Int)) (p : Nat) : upS m (25 * p + kp 0) = upS m (25 * p) :=
  upS_skip (by omega) fun i h1 h2 => swB_order (by rw [kp_zero] at h2; omega)
theorem upS_q (m : List (List Int)) (p q : Nat) (hq : q < 10) : upS m (25 * p + kp (q + 1)) = upS m (25 * p + kp q + 1) := by
  obtain ⟨h1, h2, h3⟩ := kp_next q hq
  refine upS_skip (by omega) fun i g1 g2 => swB_order ?_
  have := h3 (i - 25 * p) (by omega) (by omega) (by omega)
  omega
theorem upS_p (m : List (List Int)) (p : Nat) (hp : p < 10) : upS m (25 * kp (p + 1)) = upS m (25 * kp p + kp 10) := by
  obtain ⟨h1, h2, h3⟩ := kp_next p hp
  rw [kp_ten]
  refine upS_skip (by omega) fun i g1 g2 => swB_order ?_
  have := h3 (i / 25) (by omega) (by omega) (by omega)
  omega
theorem upS_first (m : List (List Int)) : upS m (25 * kp 0) = [] := by
  rw [upS_skip (k := 0) (by omega) fun i _ h2 => swB_order (by rw [kp_zero] at h2; omega)]; rfl
theorem own_not_blk {w : World} {b1 e1 n1 z1 g n : Nat} {T : TypeId} {F : Nat → Int} {v1 : Value} {xs : List Value} (h1 : w.ownsRow b1 e1 z1 v1 n1 xs) (h2 : Blk w g T n F) (hne : e1 ≠ T) : v1.ownBlock ≠ some g := by
  rcases h1.2 with ⟨rfl, _⟩ | ⟨g1, c1, cur1, rfl, _, hg1, _⟩
  · simp [Value.ownBlock]
  · intro e
    simp only [Value.ownBlock, Option.some.injEq] at e
    subst e
    unfold Blk at h2
    rw [hg1] at h2
    simp only [Option.some.injEq, Obj.cells.injEq] at h2
    exact hne h2.2.1
end Go.Proofs.YtcliiefedmiokaaGreat
/-
  What the search meets: images as keys, a queue of images, the map of the last switches.
-/
namespace Go.Proofs.YtcliiefedmiokaaGreat
open Go.RowKit
set_option maxRecDepth 100000

theorem vec_inj {n : Nat} {F G : Nat → Int} (h : vec n F = vec n G) : ∀ i, i < n → F i = G i := fun i hi => by
  have h1 := vec_at n F i hi
  rw [h, vec_at n G i hi] at h1
  simpa using h1.symm
/-- The cells of an image, by number. -/
def imgC (R C : Nat) (x : List (List Int)) : Nat → Int := imgF R C (cellM x)
theorem imgC_mk (R C : Nat) (f : Nat → Nat → Int) : imgC R C (mkM R C f) = imgF R C f := by
  funext i
  unfold imgC imgF
  by_cases h : i / 5 < R ∧ i % 5 < C
  · rw [if_pos h, if_pos h]; exact cell_mk R C f h.1 h.2
  · rw [if_neg h, if_neg h]
theorem imgC_wf {R C : Nat} {x : List (List Int)} (h : Node R C x) : WfI (imgC R C x) := by
  obtain ⟨f, rfl, hI⟩ := h
  rw [imgC_mk]; exact fun i => imgF_range hI i
theorem imgC_inj {R C : Nat} {x y : List (List Int)} (hx : Node R C x) (hy : Node R C y) (h : vec 25 (imgC R C x) = vec 25 (imgC R C y)) : x = y := by
  obtain ⟨f, rfl, hI⟩ := hx
  obtain ⟨g, rfl, -⟩ := hy
  have h5 := hI.r2; have h6 := hI.c2
  rw [imgC_mk, imgC_mk] at h
  exact mkM_congr fun y x hy hx => by
    have h1 := vec_inj h (5 * y + x) (by omega)
    rw [imgF_at R C f y x (by omega), imgF_at R C g y x (by omega), if_pos ⟨hy, hx⟩, if_pos ⟨hy, hx⟩] at h1
    exact h1
/-- Whether two images are the same. -/
theorem img_key2 {F : Nat → Int} (h : WfI F) : ∃ L, Tryz.prog.keyLits (Tryz.prog.types.size + 1) 84 (vecL 25 F) = some L ∧ (Value.agg (vec 25 F)).formed Tryz.prog 84 = true ∧ keyOf Tryz.prog 84 (.agg (vec 25 F)) = some (.string (keyBytes L)) := by
  have hs : ∃ d, Tryz.prog.types.size + 1 = d + 3 := ⟨Tryz.prog.types.size - 2, by have : 3 ≤ Tryz.prog.types.size := of_decide_eq_true (by kernel_rfl); omega⟩
  obtain ⟨d, hd⟩ := hs
  obtain ⟨L, hL⟩ := imgLitM d F (wfI_lit h)
  have hf : (Value.agg (vec 25 F)).formed Tryz.prog 84 = true := by
    simp [Value.formed, Tryz.underlying84, Tryz.cellsImg, vec_size]
  have hc : (Value.agg (vec 25 F)).cells.toList = vecL 25 F := by simp [Value.cells, vec]
  refine ⟨L, by rw [hd]; exact hL, hf, ?_⟩
  unfold keyOf
  rw [Tryz.underlying84]
  simp only [Tryz.keyTyM, hf, Bool.and_self, if_true, hc, hd, hL, Option.map_some]
theorem run_eqImg {F G : Nat → Int} (hF : WfI F) (hG : WfI G) (b : Bool) (hb : b = true ↔ vec 25 F = vec 25 G) (w : World) : (binOp .eql 84 (.agg (vec 25 F)) (.agg (vec 25 G))).run Tryz.prog w = .ok (.bool b) w := by
  obtain ⟨la, ha, fa, ka⟩ := img_key2 hF
  obtain ⟨lb, hl, fb, kb⟩ := img_key2 hG
  have hm : Tryz.prog.types.size + 1 ≤ 10000 := of_decide_eq_true (by kernel_rfl)
  obtain ⟨r, hr, hiff⟩ := run_equalIn_deep (10000 - (Tryz.prog.types.size + 1)) (Tryz.prog.types.size + 1) 84 Tryz.keyTyM w _ _ (.agg (vec 25 F)) (.agg (vec 25 G)) la lb fa fb (by rw [show (Value.agg (vec 25 F)).cells.toList = vecL 25 F by simp [Value.cells, vec]]; exact ha) (by rw [show (Value.agg (vec 25 G)).cells.toList = vecL 25 G by simp [Value.cells, vec]]; exact hl)
  rw [show 10000 - (Tryz.prog.types.size + 1) + (Tryz.prog.types.size + 1) = 10000 by omega] at hr
  have he : r = b := by
    rw [Bool.eq_iff_iff, hiff, hb]
    constructor
    · intro e
      subst e
      have := Tryz.imgLaw.inj ka kb
      simpa using this
    · intro e
      have e2 : vecL 25 F = vecL 25 G := by simpa [vec] using e
      rw [e2, hl] at ha
      exact (Option.some.inj ha).symm
  rw [← he]
  simp only [binOp]
  simp [Op.equal, Op.maxDepth, hr]

/-- The cells of images, one behind the other. -/
def queL (R C : Nat) (l : List (List (List Int))) : List Value := l.flatMap fun x => vecL 25 (imgC R C x)
theorem queL_nil (R C : Nat) : queL R C [] = [] := rfl
theorem queL_cons (R C : Nat) (x : List (List Int)) (l : List (List (List Int))) : queL R C (x :: l) = vecL 25 (imgC R C x) ++ queL R C l := by simp [queL]
theorem queL_snoc (R C : Nat) (x : List (List Int)) (l : List (List (List Int))) : queL R C (l ++ [x]) = queL R C l ++ vecL 25 (imgC R C x) := by simp [queL]
theorem queL_tail (R C : Nat) (l : List (List (List Int))) {a : Nat} (h : a < l.length) : (queL R C (l.drop a)).drop 25 = queL R C (l.drop (a + 1)) := by
  rw [List.drop_eq_getElem_cons h, queL_cons, List.drop_append_of_le_length (by rw [vecL_len]; exact Nat.le_refl _), List.drop_of_length_le (by rw [vecL_len]; exact Nat.le_refl _), List.nil_append]
theorem queL_head {R C : Nat} {l : List (List (List Int))} {a : Nat} (h : a < l.length) : queL R C (l.drop a) = vecL 25 (imgC R C (l.getD a [])) ++ queL R C (l.drop (a + 1)) := by
  rw [List.drop_eq_getElem_cons h, queL_cons]
  simp [List.getD_eq_getElem?_getD, List.getElem?_eq_getElem h]
theorem ownQ_head {w : World} {base n : Nat} {v : Value} {F : Nat → Int} {ys : List Value} (h : OwnQ w base 84 25 v (n + 1) (vecL 25 F ++ ys)) :
    ∃ g o cap, v = .slice (some ⟨g, o, none⟩) (n + 1) cap ∧ n + 1 ≤ cap ∧ base ≤ g ∧ g < w.heap.size ∧ w.rangeAt g o (vecL 25 F) := by
  obtain ⟨g, o, cap, rfl, h1, -, h2, h3, h4⟩ := ownQ_slice h
  refine ⟨g, o, cap, rfl, h1, h2, h3, fun j u hj => ?_⟩
  have hj' : j < 25 := by have := (List.getElem?_eq_some_iff.1 hj).1; rwa [vecL_len] at this
  rw [h4 j (by omega), List.getElem?_append_left (by rw [vecL_len]; exact hj')]
  exact hj
/-- The last switch of a list. -/
def lastS (p : List Sw) : Sw := p.getLastD zeroSw
theorem lastS_snoc (p : List Sw) (s : Sw) : lastS (p ++ [s]) = s := by simp [lastS]
/-- The entries of the map. -/
def ksOf (R C : Nat) (L : List (List (List Int))) (W : List (List Sw)) : List ((Nat → Int) × Sw) := (List.range L.length).map fun i => (imgC R C (L.getD i []), lastS (W.getD i []))
theorem ksOf_len (R C : Nat) (L : List (List (List Int))) (W : List (List Sw)) : (ksOf R C L W).length = L.length := by simp [ksOf]
theorem ksOf_snoc {R C : Nat} {L : List (List (List Int))} {W : List (List Sw)} (hl : W.length = L.length) (x : List (List Int)) (p : List Sw) : ksOf R C (L ++ [x]) (W ++ [p]) = ksOf R C L W ++ [(imgC R C x, lastS p)] := by
  unfold ksOf
  rw [List.length_append, List.length_singleton, List.range_succ, List.map_append]
  have e1 := getD_snoc_eq W p []
  rw [hl] at e1
  rw [List.map_singleton, getD_snoc_eq, e1]
  congr 1
  refine List.map_congr_left fun i hi => ?_
  have hi := List.mem_range.1 hi
  rw [getD_snoc_lt _ _ _ hi, getD_snoc_lt _ _ _ (by rw [hl]; exact hi)]
theorem ksOf_mem {R C : Nat} {L : List (List (List Int))} {W : List (List Sw)} {p : (Nat → Int) × Sw} (h : p ∈ ksOf R C L W) : ∃ i, i < L.length ∧ p = (imgC R C (L.getD i []), lastS (W.getD i [])) := by
  unfold ksOf at h
  obtain ⟨i, hi, rfl⟩ := List.mem_map.1 h
  exact ⟨i, List.mem_range.1 hi, rfl⟩
theorem ksOf_at {R C : Nat} {L : List (List (List Int))} {W : List (List Sw)} {i : Nat} (h : i < L.length) : (imgC R C (L.getD i []), lastS (W.getD i [])) ∈ ksOf R C L W := List.mem_map.2 ⟨i, List.mem_range.2 h, rfl⟩
section
variable {R C : Nat} {m : List (List Int)} {L : List (List (List Int))} {W : List (List Sw)} {a K : Nat}
theorem ksOf_wf (hm : Node R C m) (h : Bfs m L W a K) : ∀ p ∈ ksOf R C L W, WfI p.1 := fun p hp => by
  obtain ⟨i, hi, rfl⟩ := ksOf_mem hp
  exact imgC_wf (bfs_node hm h hi)
theorem ksOf_in (hm : Node R C m) (h : Bfs m L W a K) {x : List (List Int)} (hx : Node R C x) : (∃ p ∈ ksOf R C L W, vec 25 p.1 = vec 25 (imgC R C x)) ↔ x ∈ L := by
  constructor
  · rintro ⟨p, hp, e⟩
    obtain ⟨i, hi, rfl⟩ := ksOf_mem hp
    rw [← imgC_inj (bfs_node hm h hi) hx e]
    exact getD_mem hi
  · intro hx
    obtain ⟨i, hi, rfl⟩ := mem_getD [] hx
    exact ⟨_, ksOf_at hi, rfl⟩
end
/-- The number of the switch before number k. -/
def befS (S : List Sw) : Nat → Nat
  | 0 => 0
  | k + 1 => numS (S.getD k zeroSw)
theorem sws_up (x : List (List Int)) : (swsM x).Pairwise fun s t => numS s < numS t := by
  unfold swsM upS
  rw [List.pairwise_map]
  exact (List.pairwise_lt_range.filter _).imp fun h => by rw [num_dec, num_dec]; omega
theorem sws_num {x : List (List Int)} {i j : Nat} (hij : i < j) (hj : j < (swsM x).length) : numS ((swsM x).getD i zeroSw) < numS ((swsM x).getD j zeroSw) := by
  have h := List.pairwise_iff_getElem.1 (sws_up x) i j (by omega) hj hij
  rw [List.getD_eq_getElem?_getD, List.getD_eq_getElem?_getD, List.getElem?_eq_getElem hj, List.getElem?_eq_getElem (show i < (swsM x).length by omega)]
  exact h
theorem befS_le {x : List (List Int)} {k : Nat} (hk : k < (swsM x).length) : befS (swsM x) k ≤ numS ((swsM x).getD k zeroSw) := by
  cases k with
  | zero => exact Nat.zero_le _
  | succ k => exact Nat.le_of_lt (sws_num (Nat.lt_succ_self k) hk)
theorem befS_all {R C : Nat} {x : List (List Int)} (hx : Node R C x) {k : Nat} (hk : k < (swsM x).length) : ∀ s, swB x s = true → numS s < numS ((swsM x).getD k zeroSw) → numS s ≤ befS (swsM x) k := fun s hs hn => by
  obtain ⟨i, hi, rfl⟩ := mem_getD zeroSw ((sws_mem hx).2 hs)
  have hik : i < k := by
    rcases Nat.lt_trichotomy i k with h | rfl | h
    · exact h
    · omega
    · have := sws_num h hi; omega
  obtain ⟨q, rfl⟩ : ∃ q, k = q + 1 := ⟨k - 1, by omega⟩
  show numS _ ≤ numS _
  by_cases e : i = q
  · subst e; exact Nat.le_refl _
  · exact Nat.le_of_lt (sws_num (show i < q by omega) (by omega))
theorem befS_end {R C : Nat} {x : List (List Int)} (hx : Node R C x) : befS (swsM x) (swsM x).length ≤ 625 ∧ ∀ s, swB x s = true → numS s ≤ befS (swsM x) (swsM x).length := by
  cases hl : (swsM x).length with
  | zero =>
    refine ⟨Nat.zero_le _, fun s hs => ?_⟩
    have := (sws_mem hx).2 hs
    rw [List.eq_nil_of_length_eq_zero hl] at this
    cases this
  | succ k =>
    have hm : (swsM x).getD k zeroSw ∈ swsM x := getD_mem (by omega)
    obtain ⟨i, hi, e⟩ := swB_num hx ((sws_mem hx).1 hm)
    refine ⟨by show numS _ ≤ 625; rw [e, num_dec]; omega, fun s hs => ?_⟩
    obtain ⟨j, hj, rfl⟩ := mem_getD zeroSw ((sws_mem hx).2 hs)
    show numS _ ≤ numS _
    by_cases e : j = k
    · subst e; exact Nat.le_refl _
    · exact Nat.le_of_lt (sws_num (show j < k by omega) (by omega))
theorem sws_at {R C : Nat} {x : List (List Int)} (hx : Node R C x) {k : Nat} (hk : k < (swsM x).length) : swB x ((swsM x).getD k zeroSw) = true := (sws_mem hx).1 (getD_mem hk)
end Go.Proofs.YtcliiefedmiokaaGreat
/-
  searched of the program: a search in breadth.
-/
namespace Go.Proofs.YtcliiefedmiokaaGreat
open Go.RowKit

/-- What stands through the search. -/
def SrSt (w : World) (R C : Nat) (t : List (List Int)) (L : List (List (List Int))) (W : List (List Sw)) (a n : Nat) (q : Value) (w' : World) : Prop :=
  OwnQ w' (w.heap.size + 3) 84 25 q n (queL R C (L.drop a)) ∧ ImgMap w' (w.heap.size + 2) (ksOf R C L W) ∧ Blk w' (w.heap.size + 1) 84 25 (imgC R C t) ∧ w.heap.size + 3 ≤ w'.heap.size ∧ Below w.heap.size w w'
theorem sr_below {w w1 w2 : World} {R C : Nat} {t : List (List Int)} {L : List (List (List Int))} {W : List (List Sw)} {a n : Nat} {q : Value} (h : SrSt w R C t L W a n q w1) (hb : Below w1.heap.size w1 w2) : SrSt w R C t L W a n q w2 :=
  ⟨ownQ_below h.1 hb, imgMap_below h.2.1 hb, blk_below h.2.2.1 hb, Nat.le_trans h.2.2.2.1 hb.size, h.2.2.2.2.trans (hb.mono h.2.2.2.2.size)⟩
/-- What the search answers. -/
def SrRes (R C : Nat) (m t : List (List Int)) (w : World) (e : Ending) (w' : World) : Prop :=
  e = .returned (.map (some (w.heap.size + 2))) ∧ ∃ L W a K, Bfs m L W a K ∧ t ∈ L ∧ ImgMap w' (w.heap.size + 2) (ksOf R C L W) ∧ Below w.heap.size w w' ∧ (t = m → a = L.length)
theorem Tryz.infoImg : (Tryz.prog.info? 84).map (fun i => (i.zero, i.size, i.bytes)) = some (some (.agg (vec 25 fun _ => 0)), 25, 200) := by kernel_rfl
def mapLen (w : World) (b : Nat) : Nat := match w.heap[b]? with | some (.map es _) => es.size | _ => 0
theorem mapLen_of {w : World} {b : Nat} {ks : List ((Nat → Int) × Sw)} (h : ImgMap w b ks) : mapLen w b = ks.length := by
  obtain ⟨es, c, hb, hk, -⟩ := h
  unfold mapLen
  rw [hb]
  have := congrArg List.length hk
  simpa using this
def lenV : Value → Nat
  | .slice _ n _ => n
  | _ => 0
theorem ownQ_lenV {w : World} {base e z n : Nat} {v : Value} {xs : List Value} (h : OwnQ w base e z v n xs) : lenV v = n := by
  obtain ⟨-, g, o, cap, cur, rfl, -⟩ := h; rfl
theorem wpList_tail {P : Program} {ops : Array Oper} {rest : List Oper} {o : Oper} {a : Act} {Q : Exit → Act → World → Prop} {W : World} {base E T n z : Nat} {v : Value} {xs : List Value} (h : OwnQ W base E z v (n + 1) xs)
    (d : Tmp) (_hd : o.dst = some d) (hgd : o.guard = none) (x : Operand) (ho : o.op = .slice T x (some (.const (.int .i64 1))) none none) (hx : a.eval x = v) (hu : P.underlying T = some (.slice E)) (hs : ∀ w, (sizeOf E).run P w = .ok z w)
    (hK : ∀ v', OwnQ W base E z v' n (xs.drop z) → wpList P ops Q rest (a.put o.dst v') W) : wpList P ops Q (o :: rest) a W := by
  refine wpList_plain hgd fun K hk => ?_
  obtain ⟨h0, g, q, cap, cur, rfl, hr⟩ := id h
  unfold Oper.wp
  rw [exec_tail ho rfl hx hr.2.2.1 hu hs]
  exact hk _ _ (hK _ (ownQ_tail h))
theorem wpList_loadQ {P : Program} {ops : Array Oper} {rest : List Oper} {o : Oper} {a : Act} {Q : Exit → Act → World → Prop} {W : World} {g k : Nat} {T : TypeId} {d : TypeDesc} {F : Nat → Int} (h : W.rangeAt g k (vecL 25 F))
    (t : Tmp) (_hd : o.dst = some t) (hgd : o.guard = none) (x : Operand) (ho : o.op = .load T x) (hx : a.eval x = .pointer (some ⟨g, k, none⟩)) (hu : P.underlying T = some d) (hr : d.isRow = true) (hi : (P.info? T).map (·.size) = some 25)
    (hK : wpList P ops Q rest (a.put o.dst (.agg (vec 25 F))) W) : wpList P ops Q (o :: rest) a W :=
  wpList_load_mid hgd T x ho g k hx (vecL 25 F) d h hu hr (by rw [hi, vecL_len]) hK
theorem exec_loadQ {P : Program} {ρ : Operand → Value} {o : Oper} {W : World} {g k : Nat} {T : TypeId} {d : TypeDesc} {F : Nat → Int} {x : Operand} (h : W.rangeAt g k (vecL 25 F)) (ho : o.op = .load T x) (hx : ρ x = .pointer (some ⟨g, k, none⟩)) (hu : P.underlying T = some d) (hr : d.isRow = true) (hi : (P.info? T).map (·.size) = some 25) :
    (execOp ρ o).run P W = .ok (.value (.agg (vec 25 F))) W := by
  unfold execOp
  simp only [ho, hx]
  rw [Sem.run_bind, run_loadAt_mid W g k T (vecL 25 F) d h hu hr (by rw [hi, vecL_len])]
  rfl
theorem sws_cell {w : World} {lo g n c : Nat} {l : List Sw} (h : OwnSws w lo (.slice (some ⟨g, 0, none⟩) n c) l) (k : Nat) (hk : k < l.length) : SwC w g (k * 4) (l.getD k zeroSw) := by
  have := ownSws_cells h k hk
  rwa [show l.getD k zeroSw = l[k] by simp [List.getD_eq_getElem?_getD, List.getElem?_eq_getElem hk]]
theorem exec_allocV {P : Program} {ρ : Operand → Value} {o : Oper} {w : World} {T : TypeId} (n : Nat) (ho : o.op = .alloc T) (hz : ∀ w, (zeroValue T).run P w = .ok (.agg (vec n fun _ => 0)) w) :
    (execOp ρ o).run P w = .ok (.value (.pointer (some ⟨w.heap.size, 0, none⟩))) (w.alloc (.cells (vec n fun _ => 0) T)) := by
  unfold execOp
  simp only [ho, Instr.alloc, Sem.run_bind, hz, Result.andThen_ok]
  rfl
theorem exec_storeV {P : Program} {W : World} {g n : Nat} {T T' : TypeId} {F0 : Nat → Int} (F : Nat → Int) (hb : Blk W g T n F0) (hi : (P.info? T').map (·.size) = some n) :
    ∃ w', (∀ (ρ : Operand → Value) (o : Oper) (x y : Operand), o.op = .store T' x y → ρ x = .pointer (some ⟨g, 0, none⟩) → ρ y = .agg (vec n F) → (execOp ρ o).run P W = .ok .skip w') ∧ Blk w' g T n F ∧ W.grownBy w' (some g) ∧ w'.heap.size = W.heap.size := by
  refine ⟨_, fun ρ o x y ho hx hy => ?_, setRow_heap W g _ (vec n F) T (0, 0) hb, ⟨rfl, rfl, rfl, by simp, fun k hk hr => setRow_other W g k _ (fun e => hr (by rw [e]))⟩, by simp⟩
  unfold execOp
  simp only [ho, hx, hy, Instr.storeAt, Instr.sureAddr, Sem.run_bind, Sem.run_pure, Result.andThen_ok, run_storeVar_row W g T T' (vec n F0) (vec n F) hb (by rw [hi, vec_size]) (by simp [vec_size]) (vec_one n F)]
/-- A new image, in a block from B on. -/
def newB (B : Nat) : FactP := fun u w2 => ∃ G, u = .pointer (some ⟨G, 0, none⟩) ∧ B ≤ G ∧ Blk w2 G 84 25 fun _ => 0
theorem stable_newB (B : Nat) : StableP (newB B) := fun _ _ _ hb h => ⟨h.choose, h.choose_spec.1, h.choose_spec.2.1, blk_below h.choose_spec.2.2 hb⟩
theorem range_below {w w' : World} {g k : Nat} {cs : List Value} (h : w.rangeAt g k cs) (hb : Below w.heap.size w w') (hg : g < w.heap.size) : w'.rangeAt g k cs := fun j v hj => below_cell hb hg (h j v hj)
theorem zImg_cells : (Value.agg (vec 25 fun _ => 0)).cells.size = 25 := vec_size _ _
theorem start_facts (w : World) (F G : Nat → Int) : Blk (((w.alloc (.cells (vec 25 F) 84)).alloc (.cells (vec 25 G) 84)).alloc (.map #[] 0)) w.heap.size 84 25 F ∧
    Blk (((w.alloc (.cells (vec 25 F) 84)).alloc (.cells (vec 25 G) 84)).alloc (.map #[] 0)) (w.heap.size + 1) 84 25 G ∧
    ImgMap (((w.alloc (.cells (vec 25 F) 84)).alloc (.cells (vec 25 G) 84)).alloc (.map #[] 0)) (w.heap.size + 1 + 1) [] ∧
    Below w.heap.size w (((w.alloc (.cells (vec 25 F) 84)).alloc (.cells (vec 25 G) 84)).alloc (.map #[] 0)) ∧
    (((w.alloc (.cells (vec 25 F) 84)).alloc (.cells (vec 25 G) 84)).alloc (.map #[] 0)).heap.size = w.heap.size + 3 := by
  obtain ⟨w1, h1⟩ : ∃ w1, w1 = w.alloc (.cells (vec 25 F) 84) := ⟨_, rfl⟩
  have a1 : Below w.heap.size w w1 := by rw [h1]; exact (Below.refl _ _).alloc (Nat.le_refl _) _
  have b1 : Blk w1 w.heap.size 84 25 F := by rw [h1]; exact heap_alloc_new w _
  have s1 : w1.heap.size = w.heap.size + 1 := by rw [h1]; simp
  rw [← h1]
  clear h1
  obtain ⟨w2, h2⟩ : ∃ w2, w2 = w1.alloc (.cells (vec 25 G) 84) := ⟨_, rfl⟩
  have a2 : Below w1.heap.size w1 w2 := by rw [h2]; exact (Below.refl _ _).alloc (Nat.le_refl _) _
  have b2 : Blk w2 w1.heap.size 84 25 G := by rw [h2]; exact heap_alloc_new w1 _
  have s2 : w2.heap.size = w1.heap.size + 1 := by rw [h2]; simp
  rw [← h2]
  clear h2
  have a3 := (Below.refl w2.heap.size w2).alloc (Nat.le_refl _) (.map #[] 0)
  have m3 := imgMap_made w2
  rw [s1] at b2
  rw [s2, s1] at m3
  exact ⟨blk_below (blk_below b1 a2) a3, blk_below b2 a3, m3, a1.trans ((a2.mono a1.size).trans (a3.mono (Nat.le_trans a1.size a2.size))), by simp; omega⟩
end Go.Proofs.YtcliiefedmiokaaGreat
/-
  pathTo of the program: from an image back to the first one, along the last switches.
-/
namespace Go.Proofs.YtcliiefedmiokaaGreat
open Go.RowKit
set_option maxRecDepth 100000

theorem Tryz.cellsSw : Tryz.prog.cellsOf 77 = 4 := by kernel_rfl
theorem Tryz.keyTySw : Tryz.prog.keyType 77 = true := by kernel_rfl
def Sw.wf (s : Sw) : Prop := (Lit.int .i64 s.y1).wf = true ∧ (Lit.int .i64 s.y2).wf = true ∧ (Lit.int .i64 s.x1).wf = true ∧ (Lit.int .i64 s.x2).wf = true
theorem intLitsM_mk (d : Nat) (x : Int) (h : (Lit.int .i64 x).wf = true) : Tryz.prog.keyLits (d + 1) 3 [.int .i64 x] = some [.int .i64 x] := by
  unfold Program.keyLits
  rw [Tryz.underlying3]
  simp only
  rw [if_pos ⟨trivial, h⟩]
theorem swLits_mk (d : Nat) (s : Sw) (h : s.wf) : Tryz.prog.keyLits (d + 2) 77 (swA s).toList = some [.int .i64 s.y1, .int .i64 s.y2, .int .i64 s.x1, .int .i64 s.x2] := by
  obtain ⟨h1, h2, h3, h4⟩ := h
  unfold Program.keyLits
  rw [Tryz.underlying77]
  simp only [swA]
  refine (if_pos ⟨by rw [Tryz.cellsSw]; rfl, by decide +kernel⟩).trans ?_
  simp only [Tryz.cellsI, List.mapM_cons, List.mapM_nil, List.drop_zero, List.take_succ_cons, List.take_zero, List.drop_succ_cons, bind, Option.bind, pure, Option.map, intLitsM_mk d _ h1, intLitsM_mk d _ h2, intLitsM_mk d _ h3, intLitsM_mk d _ h4]
  rfl
theorem run_neqSw {s u : Sw} (hs : s.wf) (hu : u.wf) (b : Bool) (hb : b = true ↔ s ≠ u) (w : World) : (binOp .neq 77 (swV s) (swV u)).run Tryz.prog w = .ok (.bool b) w := by
  have hm : Tryz.prog.types.size + 1 ≤ 10000 := of_decide_eq_true (by kernel_rfl)
  have hf : ∀ s : Sw, (swV s).formed Tryz.prog 77 = true := fun s => by simp [swV, swA, Value.formed, Tryz.underlying77, Tryz.cellsSw]
  obtain ⟨r, hr, hiff⟩ := run_equalIn_deep (10000 - (Tryz.prog.types.size + 1)) (Tryz.prog.types.size + 1) 77 Tryz.keyTySw w 2 2 (swV s) (swV u) _ _ (hf s) (hf u) (swLits_mk 0 s hs) (swLits_mk 0 u hu)
  rw [show 10000 - (Tryz.prog.types.size + 1) + (Tryz.prog.types.size + 1) = 10000 by omega] at hr
  have he : b = !r := by
    rw [Bool.eq_iff_iff, hb]
    have : r = true ↔ s = u := hiff.trans ⟨fun e => by obtain ⟨a1, a2, a3, a4⟩ := s; obtain ⟨b1, b2, b3, b4⟩ := u; simpa using e, fun e => by rw [e]⟩
    cases r <;> simp_all
  rw [he]
  unfold swV at hr ⊢
  simp only [binOp]
  simp [Op.equal, Op.maxDepth, hr]
theorem small_wf : ∀ n : Nat, n < 625 → (Lit.int .i64 (n : Int)).wf = true := by decide +kernel
theorem dec_wf {i : Nat} (h : i < 625) : (decS i).wf := by
  unfold decS Sw.wf
  exact ⟨small_wf _ (by omega), small_wf _ (by omega), small_wf _ (by omega), small_wf _ (by omega)⟩
theorem zero_wf : zeroSw.wf := ⟨rfl, rfl, rfl, rfl⟩
theorem swB_wf {R C : Nat} {x : List (List Int)} (hx : Node R C x) {s : Sw} (h : swB x s = true) : s.wf ∧ s ≠ zeroSw := by
  obtain ⟨i, hi, rfl⟩ := swB_num hx h
  refine ⟨dec_wf hi, fun e => ?_⟩
  rw [e] at h
  obtain ⟨f, rfl, hI⟩ := hx
  rw [swB_mk hI] at h
  obtain ⟨a, b, c, d, e1, h1⟩ := swF_iff.1 h
  obtain ⟨h2, -⟩ := four_iff.1 h1
  unfold zeroSw at e1
  simp only [Sw.mk.injEq] at e1
  omega
theorem tree_len {m : List (List Int)} {L : List (List (List Int))} {W : List (List Sw)} {a K : Nat} (h : Bfs m L W a K) : ∀ n i, i ≤ n → i < L.length → (W.getD i []).length ≤ i := by
  intro n
  induction n with
  | zero =>
    intro i hi hl
    rcases h.tree i hl with ⟨e, -⟩ | ⟨j, s, hj, -⟩
    · rw [e]; exact Nat.zero_le _
    · omega
  | succ n ih =>
    intro i hi hl
    rcases h.tree i hl with ⟨e, -⟩ | ⟨j, s, hj, e, -⟩
    · rw [e]; exact Nat.zero_le _
    · have := ih j (by omega) (by omega)
      rw [e, List.length_append, List.length_singleton]; omega
/-- The way of an image, and the one before it. -/
theorem tree_back {R C : Nat} {m : List (List Int)} {L : List (List (List Int))} {W : List (List Sw)} {a K : Nat} (hm : Node R C m) (h : Bfs m L W a K) {i : Nat} (hi : i < L.length) {n : Nat} (hn : (W.getD i []).length = n + 1) :
    ∃ j s, j < L.length ∧ W.getD i [] = W.getD j [] ++ [s] ∧ (W.getD j []).length = n ∧ swB (L.getD i []) s = true ∧ flipM (L.getD i []) s = L.getD j [] := by
  rcases h.tree i hi with ⟨e, -⟩ | ⟨j, s, hj, e1, e2, e3⟩
  · rw [e] at hn; simp at hn
  · have hj' : j < L.length := by omega
    have hN := bfs_node hm h hj'
    refine ⟨j, s, hj', e1, ?_, ?_, ?_⟩
    · rw [e1, List.length_append, List.length_singleton] at hn; omega
    · rw [e3]; exact swB_back hN e2
    · rw [e3]; exact flip_back hN s
end Go.Proofs.YtcliiefedmiokaaGreat
/-
  pathTo of the program, walked.
-/
namespace Go.Proofs.YtcliiefedmiokaaGreat
open Go.RowKit
set_option maxRecDepth 100000

/-- What stands at the loop: image i, its way still to go, the switches so far. -/
def PtSt (w : World) (R C b : Nat) (L : List (List (List Int))) (V : List (List Sw)) (P : List Sw) (i gw : Nat) (v : Value) (w' : World) : Prop :=
  ∃ path, path ++ (V.getD i []).reverse = P.reverse ∧ path.length + (V.getD i []).length = P.length ∧ SwAt w' gw (lastS (V.getD i [])) ∧ w.heap.size + 1 ≤ gw ∧ v.ownBlock ≠ some gw ∧ Blk w' w.heap.size 84 25 (imgC R C (L.getD i [])) ∧ OwnSws w' (w.heap.size + 1) v path ∧ ImgMap w' b (ksOf R C L V) ∧ Below w.heap.size w w'
end Go.Proofs.YtcliiefedmiokaaGreat
/-
  The exact laws' helpers at switches: toSwitch, toSwitchS, szSwitchS, markSwitchS, heldSwitchS.
-/
namespace Go.Proofs.YtcliiefedmiokaaGreat
open Go.RowKit

def set4 (xs : List Value) (k : Nat) (s : Sw) : List Value := (((xs.set k (.int .i64 s.y1)).set (k + 1) (.int .i64 s.y2)).set (k + 2) (.int .i64 s.x1)).set (k + 3) (.int .i64 s.x2)
theorem set4_len (xs : List Value) (k : Nat) (s : Sw) : (set4 xs k s).length = xs.length := by simp [set4]
theorem set4_fill {l : List Sw} {xs : List Value} {k : Nat} (h : xs.length = l.length * 4) (hk : k < l.length) : set4 (cellsS (l.take k) ++ xs.drop (k * 4)) (k * 4) l[k] = cellsS (l.take (k + 1)) ++ xs.drop ((k + 1) * 4) := by
  have hl : (cellsS (l.take k)).length = k * 4 := by rw [cellsS_len, List.length_take]; omega
  obtain ⟨a, b, c, d, r, hr⟩ : ∃ a b c d r, xs.drop (k * 4) = a :: b :: c :: d :: r := by
    have : 4 ≤ (xs.drop (k * 4)).length := by rw [List.length_drop]; omega
    match hx : xs.drop (k * 4), this with
    | a :: b :: c :: d :: r, _ => exact ⟨a, b, c, d, r, rfl⟩
  have hd : xs.drop ((k + 1) * 4) = r := by
    rw [show (k + 1) * 4 = k * 4 + 4 by omega, ← List.drop_drop, hr]; rfl
  rw [hd, hr, List.take_succ_eq_append_getElem hk, cellsS_snoc]
  unfold set4
  rw [List.set_append_right _ _ (by omega), List.set_append_right _ _ (by omega), List.set_append_right _ _ (by omega), List.set_append_right _ _ (by omega), hl]
  rw [show k * 4 - k * 4 = 0 by omega, show k * 4 + 1 - k * 4 = 1 by omega, show k * 4 + 2 - k * 4 = 2 by omega, show k * 4 + 3 - k * 4 = 3 by omega]
  simp [swA]
/-- A switch is stored in a slice of the call's own. -/
theorem exec_storeSwOwn {ρ : Operand → Value} {o : Oper} {w : World} {x y : Operand} {base e g n c i : Nat} {xs : List Value} {s : Sw} (ho : o.op = .store 77 x y) (hx : ρ x = .pointer (some ⟨g, i * 4, none⟩)) (hy : ρ y = swV s)
    (h : w.ownsRow base e 4 (.slice (some ⟨g, 0, none⟩) n c) n xs) (hi : i < n) : ∃ w', (execOp ρ o).run Tryz.prog w = .ok .skip w' ∧ w'.ownsRow base e 4 (.slice (some ⟨g, 0, none⟩) n c) n (set4 xs (i * 4) s) ∧ w.grownBy w' (some g) := by
  have hl := h.1
  have hc : ∀ j, j < n * 4 → ∃ u, w.cell? ⟨g, j, none⟩ = some u := fun j hj => ⟨xs[j], by rw [h.cellAt j hj, List.getElem?_eq_getElem (by omega)]⟩
  obtain ⟨u0, h0⟩ := hc (i * 4) (by omega); obtain ⟨u1, h1⟩ := hc (i * 4 + 1) (by omega); obtain ⟨u2, h2⟩ := hc (i * 4 + 2) (by omega); obtain ⟨u3, h3⟩ := hc (i * 4 + 3) (by omega)
  have f0 := h.frozenAt (i * 4); have f1 := h.frozenAt (i * 4 + 1); have f2 := h.frozenAt (i * 4 + 2); have f3 := h.frozenAt (i * 4 + 3)
  obtain ⟨a1, b1⟩ := h.stored (i * 4) (.int .i64 s.y1)
  obtain ⟨a2, b2⟩ := a1.stored (i * 4 + 1) (.int .i64 s.y2)
  obtain ⟨a3, b3⟩ := a2.stored (i * 4 + 2) (.int .i64 s.x1)
  obtain ⟨a4, b4⟩ := a3.stored (i * 4 + 3) (.int .i64 s.x2)
  refine ⟨_, ?_, a4, grown_trans (grown_trans (grown_trans b1 b2) b3) b4⟩
  unfold execOp
  simp only [ho, hx, hy, swV, swA]
  go_simp
theorem wpList_storeSwOwn {ops : Array Oper} {rest : List Oper} {o : Oper} {a : Act} {Q : Exit → Act → World → Prop} {W : World} {base e g n c i : Nat} {xs : List Value} {s : Sw} (h : W.ownsRow base e 4 (.slice (some ⟨g, 0, none⟩) n c) n xs) (hi : i < n)
    (hgd : o.guard = none) (x y : Operand) (ho : o.op = .store 77 x y) (hx : a.eval x = .pointer (some ⟨g, i * 4, none⟩)) (hy : a.eval y = swV s)
    (hK : ∀ w', w'.ownsRow base e 4 (.slice (some ⟨g, 0, none⟩) n c) n (set4 xs (i * 4) s) → W.grownBy w' (some g) → wpList Tryz.prog ops Q rest (a.put o.dst undef) w') : wpList Tryz.prog ops Q (o :: rest) a W := by
  refine wpList_plain hgd fun K hk => ?_
  obtain ⟨w', h1, h2, h3⟩ := exec_storeSwOwn (ρ := a.eval) ho hx hy h hi
  unfold Oper.wp
  rw [h1]
  exact hk _ _ (hK w' h2 h3)

def SizeS (n left : Nat) (w : World) (e : Ending) (w' : World) : Prop := ∃ r : Int, e = .returned (.int .i64 r) ∧ ((r = -1) ∨ (n ≤ left ∧ r = (left - n : Nat))) ∧ w = w'
/-- The cells are marked one after the other. -/
theorem mark_cell (q j m : Nat) (xs : List Value) (hl : xs.length = m) (hj : j < m) : (ints (markR j q) ++ xs.drop j).set j (.int .i64 ((q + j : Nat) : Int)) = ints (markR (j + 1) q) ++ xs.drop (j + 1) := markR_set m q j xs hl hj
/-- A slice of n elements of four cells, each one greater than the one before. -/
def HeldC (w : World) (v : Value) (n q : Nat) : Prop := ∃ a c, v = .slice a n c ∧ n ≤ maxLen ∧ (n = 0 ∨ ∃ g o, a = some ⟨g, o, none⟩ ∧ g < w.heap.size ∧ ∀ j, j < n * 4 → w.cell? ⟨g, o + j, none⟩ = some (.int .i64 ((q + j : Nat) : Int)))
theorem heldC_below {w w' : World} {v : Value} {n q : Nat} (h : HeldC w v n q) (hb : Below w.heap.size w w') : HeldC w' v n q := by
  obtain ⟨a, c, hv, hm, hp⟩ := h
  refine ⟨a, c, hv, hm, ?_⟩
  rcases hp with h0 | ⟨g, o, ha, hg, hc⟩
  · exact .inl h0
  · exact .inr ⟨g, o, ha, Nat.lt_of_lt_of_le hg hb.size, fun j hj => below_cell hb hg (hc j hj)⟩
theorem heldC_own {w : World} {base e n q : Nat} {v : Value} (h : w.ownsRow base e 4 v n (ints (markR (n * 4) q))) : HeldC w v n q := by
  rcases h.2 with ⟨rfl, h0⟩ | ⟨g, cap, cur, rfl, hbg, hg, hc, hm, _⟩
  · exact ⟨none, 0, by rw [h0], by omega, .inl h0⟩
  · refine ⟨_, _, rfl, by omega, .inr ⟨g, 0, rfl, (Array.getElem?_eq_some_iff.1 hg).1, fun j hj => ?_⟩⟩
    rw [Nat.zero_add, h.cellAt j hj, ints_at _ j (by rw [markR_len]; exact hj), markR_at]
end Go.Proofs.YtcliiefedmiokaaGreat
/-
  slices.Reverse at switches.
-/
namespace Go.Proofs.YtcliiefedmiokaaGreat
open Go.RowKit
set_option maxRecDepth 100000

theorem grown_drewR {w w' : World} {row : Option Nat} (h : w.grownBy w' row) : w.grownBy w'.drew row := ⟨h.os, h.tape, h.output, h.size, h.block⟩
/-- Turned round from both ends, k places in. -/
def revF (l : List Sw) (k : Nat) : List Sw := (List.range l.length).map fun t => if t < k ∨ l.length ≤ t + k then l.getD (l.length - 1 - t) zeroSw else l.getD t zeroSw
theorem revF_len (l : List Sw) (k : Nat) : (revF l k).length = l.length := by simp [revF]
theorem revF_at (l : List Sw) (k t : Nat) (h : t < (revF l k).length) : (revF l k)[t] = if t < k ∨ l.length ≤ t + k then l.getD (l.length - 1 - t) zeroSw else l.getD t zeroSw := by simp [revF]
theorem revF_zero (l : List Sw) : revF l 0 = l := by
  refine List.ext_getElem (revF_len l 0) fun t h1 h2 => ?_
  rw [revF_at, if_neg (by omega), List.getD_eq_getElem?_getD, List.getElem?_eq_getElem h2]; rfl
theorem revF_end {l : List Sw} {k : Nat} (h : l.length ≤ 2 * k + 1) : revF l k = l.reverse := by
  refine List.ext_getElem (by rw [revF_len]; simp) fun t h1 h2 => ?_
  have ht : t < l.length := by simpa using h2
  rw [revF_at, List.getElem_reverse]
  by_cases e : t < k ∨ l.length ≤ t + k
  · rw [if_pos e, List.getD_eq_getElem?_getD, List.getElem?_eq_getElem (by omega)]; rfl
  · rw [if_neg e, List.getD_eq_getElem?_getD, List.getElem?_eq_getElem (by omega), Option.getD_some]
    congr 1; omega
theorem revF_step {l : List Sw} {k q : Nat} (h : k + q + 1 = l.length) (hkq : k < q) : ((revF l k).set k (l.getD q zeroSw)).set q (l.getD k zeroSw) = revF l (k + 1) := by
  refine List.ext_getElem (by simp [revF_len]) fun t h1 h2 => ?_
  have ht : t < l.length := by rw [revF_len] at h2; exact h2
  rw [List.getElem_set, List.getElem_set, revF_at, revF_at]
  by_cases e1 : q = t
  · subst e1
    rw [if_pos rfl, if_pos (by omega), show l.length - 1 - q = k by omega]
  · rw [if_neg e1]
    by_cases e2 : k = t
    · subst e2
      rw [if_pos rfl, if_pos (by omega), show l.length - 1 - k = q by omega]
    · rw [if_neg e2]
      by_cases e : t < k ∨ l.length ≤ t + k
      · rw [if_pos e, if_pos (by omega)]
      · rw [if_neg e, if_neg (by omega)]
theorem cellsS_set : ∀ (l : List Sw) (k : Nat) (s : Sw), k < l.length → cellsS (l.set k s) = set4 (cellsS l) (k * 4) s
  | [], k, s, h => by simp at h
  | x :: l, 0, s, _ => by simp [cellsS, set4]
  | x :: l, k + 1, s, h => by
    have ih := cellsS_set l k s (by simpa using h)
    have e1 : ∀ l : List Sw, cellsS (x :: l) = .int .i64 x.y1 :: .int .i64 x.y2 :: .int .i64 x.x1 :: .int .i64 x.x2 :: cellsS l := fun l => by simp [cellsS]
    rw [List.set_cons_succ, e1, ih, e1]
    unfold set4
    rw [show (k + 1) * 4 = k * 4 + 1 + 1 + 1 + 1 by omega, show k * 4 + 1 + 1 + 1 + 1 + 1 = (k * 4 + 1) + 1 + 1 + 1 + 1 by omega, show k * 4 + 1 + 1 + 1 + 1 + 2 = (k * 4 + 2) + 1 + 1 + 1 + 1 by omega, show k * 4 + 1 + 1 + 1 + 1 + 3 = (k * 4 + 3) + 1 + 1 + 1 + 1 by omega]
    simp only [List.set_cons_succ]
theorem revF_q (l : List Sw) {k q : Nat} (h : k + q + 1 = l.length) (hkq : k < q) : (revF l k).getD k zeroSw = l.getD k zeroSw ∧ (revF l k).getD q zeroSw = l.getD q zeroSw := by
  have h1 : k < (revF l k).length := by rw [revF_len]; omega
  have h2 : q < (revF l k).length := by rw [revF_len]; omega
  rw [List.getD_eq_getElem?_getD, List.getD_eq_getElem?_getD (l := revF l k), List.getElem?_eq_getElem h1, List.getElem?_eq_getElem h2, Option.getD_some, Option.getD_some, revF_at, revF_at, if_neg (by omega), if_neg (by omega)]
  exact ⟨rfl, rfl⟩
end Go.Proofs.YtcliiefedmiokaaGreat
/-
  PathTo of the program.
-/
namespace Go.Proofs.YtcliiefedmiokaaGreat
open Go.RowKit
set_option maxRecDepth 100000

def pathB (m l : List (List Int)) : Bool := sameB m l && (decide (m.length ≤ 4) && decide (widthM m ≤ 4))
/-- What PathTo answers. -/
def PathRes (m l : List (List Int)) (w : World) (e : Ending) (w' : World) : Prop :=
  ∃ v P, e = .returned (.tuple #[v, .bool (pathB m l)]) ∧ OwnSws w' w.heap.size v P ∧ Below w.heap.size w w' ∧ (pathB m l = true → Best m l P) ∧ (pathB m l = false → P = [])
theorem pathRes_no {m l : List (List Int)} {w w' : World} (h : pathB m l = false) (hb : Below w.heap.size w w') : PathRes m l w (.returned (.tuple #[.slice none 0 0, .bool false])) w' :=
  ⟨_, [], by rw [h], ownSws_nil _ _, hb, fun e => (by rw [h] at e; cases e), fun _ => rfl⟩
/-- The map of a search that has found t. -/
def mapF (R C : Nat) (m t : List (List Int)) : FactP := fun u w2 => ∃ b L V k K i, u = .map (some b) ∧ Bfs m L V k K ∧ i < L.length ∧ L.getD i [] = t ∧ ImgMap w2 b (ksOf R C L V)
theorem stable_mapF (R C : Nat) (m t : List (List Int)) : StableP (mapF R C m t) := fun _ _ _ hb h => by
  obtain ⟨b, L, V, k, K, i, h1, h2, h3, h4, h5⟩ := h
  exact ⟨b, L, V, k, K, i, h1, h2, h3, h4, imgMap_below h5 hb⟩
/-- A way to t that is the best one. -/
def wayF (base : Nat) (m t : List (List Int)) : FactP := fun u w2 => ∃ P, OwnSws w2 base u P ∧ Best m t P
theorem stable_wayF (base : Nat) (m t : List (List Int)) : StableP (wayF base m t) := fun _ _ _ hb h => ⟨h.choose, ownSws_below h.choose_spec.1 hb, h.choose_spec.2⟩
/-- What NextTo answers. -/
def NextRes (m l : List (List Int)) (w : World) (e : Ending) (w' : World) : Prop :=
  ∃ P : List Sw, e = .returned (.tuple #[swV (P.headD zeroSw), .bool (!P.isEmpty)]) ∧ Below w.heap.size w w' ∧ (pathB m l = true → Best m l P) ∧ (pathB m l = false → P = [])
end Go.Proofs.YtcliiefedmiokaaGreat
/-
  l06Find and l06Small of the model.
-/
namespace Go.Proofs.YtcliiefedmiokaaGreat
open Go.RowKit
set_option maxRecDepth 100000

/-- A list of lists of lists that reads. -/
def InImgs (w : World) (v : Value) (L : List (List (List Int))) : Prop :=
  ∃ a c, v = .slice a L.length c ∧ L.length ≤ maxLen ∧ (L.length = 0 ∨ ∃ g o, a = some ⟨g, o, none⟩ ∧ g < w.heap.size ∧ ∀ i, (h : i < L.length) → ∃ u, w.cell? ⟨g, o + i, none⟩ = some u ∧ InMat w u L[i])
theorem inImgs_below {w w' : World} {v : Value} {L : List (List (List Int))} (h : InImgs w v L) (hb : Below w.heap.size w w') : InImgs w' v L := by
  obtain ⟨a, c, hv, hm, hp⟩ := h
  refine ⟨a, c, hv, hm, ?_⟩
  rcases hp with h0 | ⟨g, o, ha, hg, hc⟩
  · exact .inl h0
  · refine .inr ⟨g, o, ha, Nat.lt_of_lt_of_le hg hb.size, fun i hi => ?_⟩
    obtain ⟨u, h1, h2⟩ := hc i hi
    exact ⟨u, below_cell hb hg h1, inMat_below h2 hb⟩
/-- What l06Find answers. -/
def FindRes (L : List (List (List Int))) (m : List (List Int)) (w : World) (e : Ending) (w' : World) : Prop :=
  ∃ r : Int, e = .returned (.int .i64 r) ∧ Below w.heap.size w w' ∧ ((r = -1 ∧ m ∉ L) ∨ ∃ k : Nat, r = k ∧ ∃ h : k < L.length, L[k] = m)
end Go.Proofs.YtcliiefedmiokaaGreat
/-
  PathTo and NextTo of the model, out of what its search leaves.
-/
namespace Go.Proofs.YtcliiefedmiokaaGreat
open Go.RowKit
set_option maxRecDepth 100000

/-- Lists of switches of the call's own, one behind the other. -/
def OwnWays (w : World) (lo : Nat) (v : Value) (V : List (List Sw)) : Prop :=
  ∃ a c, v = .slice a V.length c ∧ (V.length = 0 ∨ ∃ g, a = some ⟨g, 0, none⟩ ∧ g < w.heap.size ∧ ∀ i, (h : i < V.length) → ∃ u, w.cell? ⟨g, i, none⟩ = some u ∧ OwnSws w lo u V[i])
theorem ownWays_below {w w' : World} {lo : Nat} {v : Value} {V : List (List Sw)} (h : OwnWays w lo v V) (hb : Below w.heap.size w w') : OwnWays w' lo v V := by
  obtain ⟨a, c, hv, hp⟩ := h
  refine ⟨a, c, hv, ?_⟩
  rcases hp with h0 | ⟨g, ha, hg, hc⟩
  · exact .inl h0
  · refine .inr ⟨g, ha, Nat.lt_of_lt_of_le hg hb.size, fun i hi => ?_⟩
    obtain ⟨u, h1, h2⟩ := hc i hi
    exact ⟨u, below_cell hb hg h1, ownSws_below h2 hb⟩
end Go.Proofs.YtcliiefedmiokaaGreat
/-
  PutCell of the model.
-/
namespace Go.Proofs.YtcliiefedmiokaaGreat
open Go.RowKit

set_option maxRecDepth 100000 in
set_option maxHeartbeats 1000000 in
theorem l02Copy_any (v : Value) (R C : Nat) (f : Nat → Nat → Int) (w : World) (hin : InMat w v (mkM R C f)) (hI : Img R C f) :
    Calls Tryz.prog 61 #[v] w (MatRes (mkM R C f) w) := by
  have hR1 := hI.r1; have hC1 := hI.c1; have hR := hI.r2; have hC := hI.c2
  obtain ⟨g, o, c, rfl, hg, hcell⟩ := inMat_img hin (by omega) (by omega)
  have HC := hide hcell
  clear hin hI hcell
  go_enter Tryz.func61, Tryz.ntmps61
  go_wp2
  go_loopw [3, 9] (fun u i w' => ∃ (y : Nat) (v : Value), y ≤ R ∧ i = .int .i64 y ∧ v = u ∧ OwnMat w' w.heap.size w'.heap.size v (mkM y C f) ∧ Below w.heap.size w w') (fun _ i _ => R - (intOf i).toNat)
  case atStart => exact ⟨0, _, by omega, rfl, rfl, ⟨[], World.ownsRow_made (base := w.heap.size) w #[] 0 (Nat.le_refl _) (Nat.zero_le _) rfl, (fun k e => by simp [Value.ownBlock] at e; subst e; simp), (fun i h => absurd h (Nat.not_lt_zero _)), fun i j _ h => absurd h (Nat.not_lt_zero _)⟩, (Below.refl _ _).alloc (Nat.le_refl _) _⟩
  case round =>
    obtain ⟨y, v, hy, rfl, rfl, hown, hb⟩ := hrel
    have HO := hide hown; have HB := hide hb
    clear hown hb
    by_cases hlt : y < R
    · have hyI : (y : Int) < R := by omega
      have hsz := HB.out.size
      obtain ⟨g', o', c', hx, hg', hcc⟩ := HC.out y hlt
      have hx := below_cell HB.out hg hx
      have HCC : Hid (∀ j, (h : j < (rowF C (f y)).length) → (wr.alloc (.cells #[] 3)).cell? ⟨g', o' + j, none⟩ = some (.int .i64 (rowF C (f y))[j])) := hide (fun j h => by
        rw [rowF_at, below_cell (w := wr) ((Below.refl _ _).alloc (Nat.le_refl _) _) (by omega) (below_cell HB.out hg' (hcc j (by rw [rowF_len] at h; exact h)))])
      have HE : Hid ((wr.alloc (.cells #[] 3)).ownsRow wr.heap.size 3 1 (.slice (some ⟨wr.heap.size, 0, none⟩) 0 0) 0 []) := hide (World.ownsRow_made (base := wr.heap.size) wr #[] 0 (Nat.le_refl _) (Nat.zero_le _) rfl)
      have HLN := hide (rowF_len C (f y))
      have HB1 := hide (HB.out.alloc hsz (.cells #[] 3))
      have HW1 := hide (below_cell (w := wr) (w' := wr.alloc (.cells #[] 3)) ((Below.refl _ _).alloc (Nat.le_refl _) _) (show g < wr.heap.size by omega) hx)
      have HO1 := hide (ownMat_below HO.out ((Below.refl wr.heap.size wr).alloc (Nat.le_refl _) (.cells #[] 3)))
      have hs0 : (wr.alloc (.cells #[] 3)).heap.size = wr.heap.size + 1 := by simp
      have HS0 := hide hs0
      clear hcc hs0
      go_wp2_with (first | (refine wpList_appendRow 16 rfl HE.out (rowF C (f y)) g' o' c' (.int .i64 0) rfl _ _ rfl Tryz.underlying30 Tryz.infoInt rfl (by decide) rfl (by rw [HLN.out]; rfl) HCC.out (by rw [HLN.out]; omega) (by rw [HS0.out]; omega) ?_; intro u2 w2 hu2 hb2 hg2; rw [HLN.out, Nat.zero_add, List.nil_append] at hu2; obtain ⟨ua, uc, rfl⟩ := own_slice hu2; have HU := hide hu2; have O2 := hide (ownMat_within HO1.out (within_grown (lo := wr.heap.size) (hi := wr.heap.size + 1) hg2 fun k e => by simp [Value.ownBlock] at e; omega) (.inl (Nat.le_refl _))); have B2 := hide (HB1.out.trans (hb2.mono hsz)); have hs2 := hb2.size; rw [HS0.out] at hs2; clear hu2 hb2 hg2; obtain ⟨vs, hv, hvh, hvr, hva⟩ := O2.out; have hvl := mkM_len y C f; rw [hvl] at hv; have HV := hide hv; have HVR := hide hvr; have HVA := hide hva; clear hv hvh hvr hva hvl) | (at_builtin; refine wpList_push HV.out (.slice ua C uc) (.slice none 0 0) rfl _ _ rfl Tryz.underlying22 Tryz.infoInts rfl (by decide) rfl rfl rfl (by omega) (by omega) ?_; intro v' w6 hown1 hb1 hg1))
      go_roundw
      case rel =>
        have hs6 := hb1.size
        have hp := ownMat_push (r := rowF C (f y)) (hi' := w6.heap.size) HVR.out HVA.out (by rw [mkM_len]; exact HV.out) (by rw [HLN.out]; exact HU.out) hsz (by omega) (by omega) hg1 (by rw [mkM_len]; exact hown1) (fun k e => (hown1.lt k e).2)
        rw [← mkM_succ] at hp
        exact ⟨y + 1, _, by omega, by go_num, rfl, hp, B2.out.trans (hb1.mono (by omega))⟩
      case measure => simp [intOf]; omega
    · obtain rfl : y = R := by omega
      go_wp2
      go_ret
      exact ⟨_, rfl, HO.out, HB.out⟩

theorem cellOk_in (c : Int) : decide (0 ≤ c ∧ c ≤ 1) = cellOk c := by
  unfold cellOk
  by_cases h0 : c = 0
  · subst h0; rfl
  · by_cases h1 : c = 1
    · subst h1; rfl
    · rw [decide_eq_false (by omega)]; simp [h0, h1]
theorem mkM_put (R C : Nat) (f : Nat → Nat → Int) (y x : Nat) (c : Int) : (mkM R C fun a b => if a = y ∧ b = x then c else f a b) = mkM R C (putM f y x c) := rfl
end Go.Proofs.YtcliiefedmiokaaGreat
