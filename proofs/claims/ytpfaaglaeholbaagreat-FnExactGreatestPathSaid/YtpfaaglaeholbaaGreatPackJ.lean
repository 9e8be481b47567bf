/-
  Texts of this claim, one behind the other: IMap, Pairs, Sws, SrA.
-/
import Derived.Test.YtpfaaglaeholbaaGreatPackI
import Derived.DeepKeys5
import Derived.Maps.OwnSet
import Derived.Test.YtpfaaglaeholbaaGreatPackC
import Derived.Test.YtpfaaglaeholbaaGreatPackD
import Derived.Test.YtpfaaglaeholbaaGreatPackF
import Derived.Deep.MidRow
/-
  A map of switches keyed by images, told by its entries.
-/
namespace Go.Proofs.YtpfaaglaeholbaaGreat
open Go.RowKit
set_option maxRecDepth 100000

theorem Tryz.laidOutM : laidOutB Tryz.prog = true := by kernel_rfl
theorem Tryz.keyTyM : Tryz.prog.keyType 70 = true := by kernel_rfl
theorem Tryz.cellsImg : Tryz.prog.cellsOf 70 = 25 := by kernel_rfl
theorem Tryz.cellsRow5 : Tryz.prog.cellsOf 68 = 5 := by kernel_rfl
theorem Tryz.cellsI : Tryz.prog.cellsOf 3 = 1 := by kernel_rfl
theorem Tryz.imgLaw : Maps.Keyed Tryz.prog 70 := Maps.Keyed.of_law (deep_law_gate Tryz.laidOutM (of_decide_eq_true (by kernel_rfl)) (of_decide_eq_true (by kernel_rfl)) Tryz.keyTyM (by rw [Tryz.underlying70]))
theorem mapM_some {α β : Type} (f : α → Option β) : ∀ l : List α, (∀ x ∈ l, ∃ y, f x = some y) → ∃ ys, l.mapM f = some ys
  | [], _ => ⟨[], rfl⟩
  | x :: l, h => by
    obtain ⟨y, hy⟩ := h x (by simp)
    obtain ⟨ys, hys⟩ := mapM_some f l fun z hz => h z (by simp [hz])
    exact ⟨y :: ys, by simp [List.mapM_cons, hy, hys]⟩
theorem intLitM (d : Nat) (x : Int) (h : (Lit.int .i64 x).wf = true) : ∃ l, Tryz.prog.keyLits (d + 1) 3 [.int .i64 x] = some l := by
  unfold Program.keyLits
  rw [Tryz.underlying3]
  exact ⟨_, if_pos ⟨rfl, h⟩⟩
theorem rowLitM (d : Nat) (F : Nat → Int) (h : ∀ i, (Lit.int .i64 (F i)).wf = true) : ∃ l, Tryz.prog.keyLits (d + 2) 68 (vecL 5 F) = some l := by
  unfold Program.keyLits
  rw [Tryz.underlying68]
  simp only [Tryz.cellsRow5, Tryz.cellsI, vecL_len, if_true]
  obtain ⟨ys, hys⟩ := mapM_some (fun i => Tryz.prog.keyLits (d + 1) 3 (((vecL 5 F).drop (i * 1)).take 1)) (List.range 5) fun i hi => by
    have hi' := List.mem_range.1 hi
    have e : ((vecL 5 F).drop (i * 1)).take 1 = [.int .i64 (F i)] := by
      apply List.ext_getElem
      · simp [vecL]; omega
      · intro j h1 h2
        obtain rfl : j = 0 := by simp at h2; omega
        simp [vecL]
    obtain ⟨l, hl⟩ := intLitM d (F i) (h i)
    exact ⟨l, by rw [e]; exact hl⟩
  exact ⟨ys.flatten, by rw [hys]; rfl⟩
theorem imgLitM (d : Nat) (F : Nat → Int) (h : ∀ i, (Lit.int .i64 (F i)).wf = true) : ∃ l, Tryz.prog.keyLits (d + 3) 70 (vecL 25 F) = some l := by
  unfold Program.keyLits
  rw [Tryz.underlying70]
  simp only [Tryz.cellsImg, Tryz.cellsRow5, vecL_len, if_true]
  obtain ⟨ys, hys⟩ := mapM_some (fun i => Tryz.prog.keyLits (d + 2) 68 (((vecL 25 F).drop (i * 5)).take 5)) (List.range 5) fun i hi => by
    have hi' := List.mem_range.1 hi
    have e : ((vecL 25 F).drop (i * 5)).take 5 = vecL 5 fun j => F (i * 5 + j) := by
      apply List.ext_getElem
      · simp [vecL]; omega
      · intro j h1 h2
        simp [vecL]
    obtain ⟨l, hl⟩ := rowLitM d (fun j => F (i * 5 + j)) fun j => h _
    exact ⟨l, by rw [e]; exact hl⟩
  exact ⟨ys.flatten, by rw [hys]; rfl⟩
/-- Cells of an image. -/
def WfI (F : Nat → Int) : Prop := ∀ i, F i = -1 ∨ F i = 0 ∨ F i = 1
theorem wfI_lit {F : Nat → Int} (h : WfI F) (i : Nat) : (Lit.int .i64 (F i)).wf = true := by
  rcases h i with e | e | e <;> rw [e] <;> decide
theorem img_key {F : Nat → Int} (h : WfI F) : ∃ l, keyOf Tryz.prog 70 (.agg (vec 25 F)) = some l := by
  have hs : ∃ d, Tryz.prog.types.size + 1 = d + 3 := ⟨Tryz.prog.types.size - 2, by have : 3 ≤ Tryz.prog.types.size := of_decide_eq_true (by kernel_rfl); omega⟩
  obtain ⟨d, hd⟩ := hs
  obtain ⟨L, hL⟩ := imgLitM d F (wfI_lit h)
  have hf : (Value.agg (vec 25 F)).formed Tryz.prog 70 = true := by
    simp [Value.formed, Tryz.underlying70, Tryz.cellsImg, vec_size]
  have hc : (Value.agg (vec 25 F)).cells.toList = vecL 25 F := by simp [Value.cells, vec]
  refine ⟨.string (keyBytes L), ?_⟩
  unfold keyOf
  rw [Tryz.underlying70]
  simp only [Tryz.keyTyM, hf, Bool.and_self, if_true, hc, hd, hL, Option.map_some]
/-- The map in block b holds these entries, in this order. -/
def ImgMap (w : World) (b : Nat) (ks : List ((Nat → Int) × Sw)) : Prop :=
  ∃ (es : Array MapEntry) (clock : Nat), w.heap[b]? = some (.map es clock) ∧ es.toList.map (fun e => (e.key, e.val)) = (ks.map fun p => (Value.agg (vec 25 p.1), swV p.2)) ∧ MapKept.Stamped es clock
theorem imgMap_lt {w : World} {b : Nat} {ks : List ((Nat → Int) × Sw)} (h : ImgMap w b ks) : b < w.heap.size := by
  obtain ⟨es, c, hb, -⟩ := h
  exact (Array.getElem?_eq_some_iff.1 hb).1
theorem imgMap_heap {w w' : World} {b : Nat} {ks : List ((Nat → Int) × Sw)} (h : ImgMap w b ks) (e : w'.heap[b]? = w.heap[b]?) : ImgMap w' b ks := by
  obtain ⟨es, c, hb, hk⟩ := h
  exact ⟨es, c, e.trans hb, hk⟩
theorem imgMap_below {w w' : World} {b : Nat} {ks : List ((Nat → Int) × Sw)} (h : ImgMap w b ks) (hb : Below w.heap.size w w') : ImgMap w' b ks := imgMap_heap h (hb.block b (imgMap_lt h))
theorem imgMap_grown {w w' : World} {b : Nat} {ks : List ((Nat → Int) × Sw)} {row : Option Nat} (h : ImgMap w b ks) (hg : w.grownBy w' row) (hr : row ≠ some b) : ImgMap w' b ks := imgMap_heap h (hg.block b (imgMap_lt h) (Ne.symm hr))
theorem imgMap_made (w : World) : ImgMap (w.alloc (.map #[] 0)) w.heap.size [] := ⟨#[], 0, heap_alloc_new w _, rfl, MapKept.stamped_empty 0⟩
theorem own_not_map {w : World} {b1 e1 n1 z1 b : Nat} {v1 : Value} {xs : List Value} {ks : List ((Nat → Int) × Sw)} (h1 : w.ownsRow b1 e1 z1 v1 n1 xs) (h2 : ImgMap w b ks) : v1.ownBlock ≠ some b := by
  obtain ⟨es, c, hb, -⟩ := h2
  rcases h1.2 with ⟨rfl, _⟩ | ⟨g1, c1, cur1, rfl, _, hg1, _⟩
  · simp [Value.ownBlock]
  · intro e
    simp only [Value.ownBlock, Option.some.injEq] at e
    subst e
    rw [hg1] at hb; cases hb
theorem imgMap_keys {es : Array MapEntry} {ks : List ((Nat → Int) × Sw)} (hk : es.toList.map (fun e => (e.key, e.val)) = ks.map fun p => (Value.agg (vec 25 p.1), swV p.2)) (hw : ∀ p ∈ ks, WfI p.1) : ∀ e ∈ es.toList, ∃ l, keyOf Tryz.prog 70 e.key = some l := by
  intro e he
  have h1 : (e.key, e.val) ∈ es.toList.map (fun e => (e.key, e.val)) := List.mem_map.2 ⟨e, he, rfl⟩
  rw [hk] at h1
  obtain ⟨p, hp, hpe⟩ := List.mem_map.1 h1
  simp only [Prod.mk.injEq] at hpe
  obtain ⟨l, hl⟩ := img_key (hw p hp)
  exact ⟨l, by rw [← hpe.1]; exact hl⟩
theorem run_lookupIM {w : World} {b : Nat} {ks : List ((Nat → Int) × Sw)} {F : Nat → Int} (h : ImgMap w b ks) (hw : ∀ p ∈ ks, WfI p.1) (hF : WfI F) (ok : Bool) :
    ∃ (s : Sw) (fd : Bool), (Instr.lookup 74 (.map (some b)) (.agg (vec 25 F)) ok).run Tryz.prog w = .ok (if ok then .tuple #[swV s, .bool fd] else swV s) w ∧
      ((fd = true ∧ ∃ p ∈ ks, vec 25 p.1 = vec 25 F ∧ s = p.2) ∨ (fd = false ∧ s = zeroSw ∧ ∀ p ∈ ks, vec 25 p.1 ≠ vec 25 F)) := by
  obtain ⟨es, c, hb, hk, -⟩ := h
  obtain ⟨l, hl⟩ := img_key hF
  have hkeys := imgMap_keys hk hw
  rcases Tryz.imgLaw.find w hl es.toList hkeys with ⟨h1, h2⟩ | ⟨j, e, h1, h2, h3⟩
  · refine ⟨zeroSw, false, ?_, .inr ⟨rfl, rfl, fun p hp e => ?_⟩⟩
    · cases ok <;> simp [Instr.lookup, run_underlying Tryz.underlying74, MapKept.run_getObj_map hb, Tryz.imgLaw.check w _ hl, h1, Result.andThen] <;> rfl
    · have hm : (Value.agg (vec 25 p.1), swV p.2) ∈ ks.map fun p => (Value.agg (vec 25 p.1), swV p.2) := List.mem_map.2 ⟨p, hp, rfl⟩
      rw [← hk] at hm
      obtain ⟨x, hx, hxe⟩ := List.mem_map.1 hm
      simp only [Prod.mk.injEq] at hxe
      exact h2 x hx (by rw [hxe.1, e])
  · have hm : (e.key, e.val) ∈ es.toList.map (fun e => (e.key, e.val)) := List.mem_map.2 ⟨e, List.mem_of_getElem? h2, rfl⟩
    rw [hk] at hm
    obtain ⟨p, hp, hpe⟩ := List.mem_map.1 hm
    simp only [Prod.mk.injEq] at hpe
    refine ⟨p.2, true, ?_, .inl ⟨rfl, p, hp, ?_, rfl⟩⟩
    · cases ok <;> simp [Instr.lookup, run_underlying Tryz.underlying74, MapKept.run_getObj_map hb, Tryz.imgLaw.check w _ hl, h1, hpe.2, Result.andThen]
    · have := hpe.1.trans h3
      simpa using this
theorem run_updateIM {w : World} {b : Nat} {ks : List ((Nat → Int) × Sw)} {F : Nat → Int} (h : ImgMap w b ks) (hw : ∀ p ∈ ks, WfI p.1) (hF : WfI F) (hne : ∀ p ∈ ks, vec 25 p.1 ≠ vec 25 F) (s : Sw) :
    ∃ w', (Instr.mapUpdate 74 (.map (some b)) (.agg (vec 25 F)) (swV s)).run Tryz.prog w = .ok () w' ∧ ImgMap w' b (ks ++ [(F, s)]) ∧ w.grownBy w' (some b) ∧ w'.heap.size = w.heap.size := by
  obtain ⟨es, c, hb, hk, hst⟩ := h
  obtain ⟨l, hl⟩ := img_key hF
  have hkeys := imgMap_keys hk hw
  rcases Tryz.imgLaw.find w hl es.toList hkeys with ⟨h1, h2⟩ | ⟨j, e, h1, h2, h3⟩
  · refine ⟨{ w with heap := w.heap.setIfInBounds b (.map (es.push ⟨.agg (vec 25 F), swV s, c⟩) (c + 1)) }, by simp [Instr.mapUpdate, run_underlying Tryz.underlying74, MapKept.run_getObj_map hb, Tryz.imgLaw.check w _ hl, h1, MapKept.run_setObj_map _ hb, Result.andThen], ⟨es.push ⟨.agg (vec 25 F), swV s, c⟩, c + 1, ?_, ?_, MapKept.stamped_push hst h2⟩, ⟨rfl, rfl, rfl, by simp, fun k hk hr => ?_⟩, by simp⟩
    · have hlt := (Array.getElem?_eq_some_iff.1 hb).1
      simp [hlt]
    · rw [Array.toList_push, List.map_append, hk]; simp
    · have : b ≠ k := fun e => hr (by rw [e])
      simp [Array.getElem?_setIfInBounds_ne this]
  · exfalso
    have hm : (e.key, e.val) ∈ es.toList.map (fun e => (e.key, e.val)) := List.mem_map.2 ⟨e, List.mem_of_getElem? h2, rfl⟩
    rw [hk] at hm
    obtain ⟨p, hp, hpe⟩ := List.mem_map.1 hm
    simp only [Prod.mk.injEq] at hpe
    have := hpe.1.trans h3
    exact hne p hp (by simpa using this)
theorem wpList_lookupIM {ops : Array Oper} {rest : List Oper} {o : Oper} {a : Act} {Q : Exit → Act → World → Prop} {W : World} {b : Nat} {ks : List ((Nat → Int) × Sw)} {F : Nat → Int} (h : ImgMap W b ks) (hw : ∀ p ∈ ks, WfI p.1) (hF : WfI F)
    (d : Tmp) (_hd : o.dst = some d) (hgd : o.guard = none) (m x : Operand) (ok : Bool) (ho : o.op = .lookup 74 m x ok) (hm : a.eval m = .map (some b)) (hx : a.eval x = .agg (vec 25 F))
    (hK : ∀ (s : Sw) (fd : Bool), ((fd = true ∧ ∃ p ∈ ks, vec 25 p.1 = vec 25 F ∧ s = p.2) ∨ (fd = false ∧ s = zeroSw ∧ ∀ p ∈ ks, vec 25 p.1 ≠ vec 25 F)) → wpList Tryz.prog ops Q rest (a.put o.dst (if ok then .tuple #[swV s, .bool fd] else swV s)) W) : wpList Tryz.prog ops Q (o :: rest) a W := by
  refine wpList_plain hgd fun K hk => ?_
  obtain ⟨s, fd, h1, h2⟩ := run_lookupIM h hw hF ok
  unfold Oper.wp
  simp only [execOp, ho, hm, hx, Sem.run_bind, h1, Result.andThen_ok]
  exact hk _ _ (hK s fd h2)
theorem wpList_updateIM {ops : Array Oper} {rest : List Oper} {o : Oper} {a : Act} {Q : Exit → Act → World → Prop} {W : World} {b : Nat} {ks : List ((Nat → Int) × Sw)} {F : Nat → Int} (h : ImgMap W b ks) (hw : ∀ p ∈ ks, WfI p.1) (hF : WfI F) (hne : ∀ p ∈ ks, vec 25 p.1 ≠ vec 25 F) (s : Sw)
    (hgd : o.guard = none) (m x y : Operand) (ho : o.op = .mapUpdate 74 m x y ∨ o.op = .insert 74 m x y) (hm : a.eval m = .map (some b)) (hx : a.eval x = .agg (vec 25 F)) (hy : a.eval y = swV s)
    (hK : ∀ w', ImgMap w' b (ks ++ [(F, s)]) → W.grownBy w' (some b) → w'.heap.size = W.heap.size → wpList Tryz.prog ops Q rest (a.put o.dst undef) w') : wpList Tryz.prog ops Q (o :: rest) a W := by
  refine wpList_plain hgd fun K hk => ?_
  obtain ⟨w', h1, h2, h3, h4⟩ := run_updateIM h hw hF hne s
  unfold Oper.wp
  rcases ho with ho | ho
  · simp only [execOp, ho, hm, hx, hy, Sem.run_bind, h1, Result.andThen_ok]
    exact hk _ _ (hK w' h2 h3 h4)
  · simp only [execOp, ho, hm, hx, hy, Sem.run_bind, h1, Result.andThen_ok]
    exact hk _ _ (hK w' h2 h3 h4)
end Go.Proofs.YtpfaaglaeholbaaGreat
/-
  pairsBelow of the program: all pairs of numbers below 5, in order.
-/
namespace Go.Proofs.YtpfaaglaeholbaaGreat
open Go.RowKit

def cellsP (l : List (Nat × Nat)) : List Value := l.flatMap fun p => [.int .i64 (p.1 : Int), .int .i64 (p.2 : Int)]
theorem cellsP_snoc (l : List (Nat × Nat)) (a b : Nat) : cellsP (l ++ [(a, b)]) = cellsP l ++ #[Value.int .i64 (a : Int), .int .i64 (b : Int)].toList := by simp [cellsP]
/-- The pairs up to a number. -/
def upP (k : Nat) : List (Nat × Nat) := ((List.range k).filter fun c => decide (c / 5 < c % 5)).map fun c => (c / 5, c % 5)
theorem upP_yes {k : Nat} (h : k / 5 < k % 5) : upP (k + 1) = upP k ++ [(k / 5, k % 5)] := by
  unfold upP; rw [List.range_succ, List.filter_append, List.map_append]; simp [h]
theorem upP_no {k : Nat} (h : ¬ k / 5 < k % 5) : upP (k + 1) = upP k := by
  unfold upP; rw [List.range_succ, List.filter_append, List.map_append]; simp [h]
theorem upP_skip {k l : Nat} (hkl : k ≤ l) (h : ∀ i, k ≤ i → i < l → ¬ i / 5 < i % 5) : upP l = upP k := by
  induction l with
  | zero => obtain rfl : k = 0 := by omega
            rfl
  | succ l ih =>
    by_cases e : k = l + 1
    · rw [e]
    · rw [upP_no (h l (by omega) (by omega)), ih (by omega) fun i h1 h2 => h i h1 (by omega)]
theorem upP_len (k : Nat) : (upP k).length ≤ k := by
  unfold upP; rw [List.length_map]
  exact Nat.le_trans (List.length_filter_le _ _) (by rw [List.length_range]; exact Nat.le_refl _)
theorem Tryz.infoPair : (Tryz.prog.info? 142).map (fun i => (i.zero, i.size, i.bytes)) = some (some (.agg #[.int .i64 0, .int .i64 0]), 2, 16) := by kernel_rfl
def PairsRes (l : List (Nat × Nat)) (w : World) (e : Ending) (w' : World) : Prop := ∃ v, e = .returned v ∧ w'.ownsRow w.heap.size 142 2 v l.length (cellsP l) ∧ Below w.heap.size w w'
set_option maxRecDepth 100000 in
set_option maxHeartbeats 2000000 in
theorem pairsBelow_any (w : World) : Calls Tryz.prog 121 #[.int .i64 5] w (PairsRes (upP 25) w) := by
  go_enter Tryz.func121, Tryz.ntmps121
  go_wp2
  go_loopw [3, 7] (fun u t w' => ∃ (i : Nat) (v : Value), i ≤ 5 ∧ t = .int .i64 i ∧ v = u ∧ w'.ownsRow w.heap.size 142 2 v (upP (5 * i)).length (cellsP (upP (5 * i))) ∧ Below w.heap.size w w') (fun _ t _ => 5 - (intOf t).toNat)
  case atStart => exact ⟨0, _, by omega, rfl, rfl, World.ownsRow_nil _ _ _ _, Below.refl _ _⟩
  case round =>
    obtain ⟨i, v, hi, rfl, rfl, ho, hb⟩ := hrel
    have HO := hide ho; have HB := hide hb
    clear ho hb
    by_cases hlt : i < 5
    · have hiI : (i : Int) < 5 := by omega
      have HSK : Hid (upP (5 * i + (i + 1)) = upP (5 * i)) := hide (upP_skip (by omega) fun c h1 h2 => by omega)
      rw [← HSK.out] at HO
      clear HSK
      go_wp2
      go_loopw [3, 5] (fun u t w' => ∃ (j : Nat) (v : Value), (i + 1 ≤ j ∧ j ≤ 5) ∧ t = .int .i64 j ∧ v = u ∧ w'.ownsRow w.heap.size 142 2 v (upP (5 * i + j)).length (cellsP (upP (5 * i + j))) ∧ Below w.heap.size w w') (fun _ t _ => 5 - (intOf t).toNat)
      case atStart => exact ⟨i + 1, _, by omega, by go_num, rfl, HO.out, HB.out⟩
      case round =>
        clear HO HB
        obtain ⟨j, v, ⟨hj1, hj⟩, rfl, rfl, ho, hb⟩ := hrel
        have HO := hide ho; have HB := hide hb
        clear ho hb
        by_cases hlj : j < 5
        · have hjI : (j : Int) < 5 := by omega
          have HL := hide (upP_len (5 * i + j))
          have HST : Hid (upP (5 * i + (j + 1)) = upP (5 * i + j) ++ [(i, j)]) := hide (by
            have := upP_yes (k := 5 * i + j) (by omega)
            rw [show (5 * i + j) / 5 = i by omega, show (5 * i + j) % 5 = j by omega] at this
            rw [← Nat.add_assoc, this])
          have hwr := HB.out.size
          obtain ⟨va, vc, hvv⟩ := ownA_slice HO.out
          obtain ⟨n, hn⟩ : ∃ n, n = (upP (5 * i + j)).length := ⟨_, rfl⟩
          have HN := hide hn
          rw [← hn] at HO HL hvv
          clear hn
          subst hvv
          go_wp2_with (first | (with_reducible refine wpList_buildOneA #[.int .i64 (i : Int), .int .i64 (j : Int)] _ 21 rfl rfl _ rfl rfl Tryz.underlying140 Tryz.infoPair (by decide) (by decide) rfl ?_) | (at_builtin; refine wpList_pushA HO.out #[.int .i64 (i : Int), .int .i64 (j : Int)] _ rfl _ _ rfl Tryz.underlying140 Tryz.infoPair rfl (by decide) (by decide) rfl rfl rfl (by simp [Value.oneCell']) (by have := HL.out; omega) hwr ?_; intro g cap w6 hown hb6 hg6 hat6 hlt6))
          go_roundw
          case rel =>
            refine ⟨j + 1, _, by omega, by go_num, rfl, ?_, HB.out.trans (hb6.mono (Nat.le_refl _))⟩
            rw [HST.out, cellsP_snoc, List.length_append, ← HN.out]
            exact hown
          case measure => simp [intOf]; omega
        · obtain rfl : j = 5 := by omega
          go_wp2
          go_roundw
          case rel => exact ⟨i + 1, _, by omega, by go_num, rfl, HO.out, HB.out⟩
          case measure => simp [intOf]; omega
    · obtain rfl : i = 5 := by omega
      go_wp2
      go_ret
      exact ⟨_, rfl, HO.out, HB.out⟩
end Go.Proofs.YtpfaaglaeholbaaGreat
/-
  switches of the program: all switches of an image, in order.
-/
namespace Go.Proofs.YtpfaaglaeholbaaGreat
open Go.RowKit

def kp (p : Nat) : Nat := [1, 2, 3, 4, 7, 8, 9, 13, 14, 19].getD p 25
theorem pairs_len : (upP 25).length = 10 := by decide +kernel
theorem pairs_at : ∀ p, p < 10 → (upP 25)[p]? = some (kp p / 5, kp p % 5) := by decide +kernel
theorem kp_in : ∀ p, p < 10 → kp p < 25 ∧ kp p / 5 < kp p % 5 := by decide +kernel
theorem kp_next : ∀ p, p < 10 → kp p < kp (p + 1) ∧ kp (p + 1) ≤ 25 ∧ ∀ c, c < 25 → kp p < c → c < kp (p + 1) → ¬ c / 5 < c % 5 := by decide +kernel
theorem kp_zero : kp 0 = 1 := rfl
theorem kp_ten : kp 10 = 25 := rfl
theorem cellsP_at : ∀ (l : List (Nat × Nat)) (i a b : Nat), l[i]? = some (a, b) → (cellsP l)[i * 2]? = some (.int .i64 (a : Int)) ∧ (cellsP l)[i * 2 + 1]? = some (.int .i64 (b : Int))
  | [], i, a, b, h => by simp at h
  | p :: l, 0, a, b, h => by
    simp only [List.getElem?_cons_zero, Option.some.injEq] at h
    subst h
    exact ⟨rfl, rfl⟩
  | p :: l, i + 1, a, b, h => by
    have := cellsP_at l i a b (by simpa using h)
    have e : cellsP (p :: l) = [.int .i64 (p.1 : Int), .int .i64 (p.2 : Int)] ++ cellsP l := by simp [cellsP]
    rw [e]
    refine ⟨?_, ?_⟩
    · rw [List.getElem?_append_right (by simp; omega)]
      simpa [show (i + 1) * 2 - 2 = i * 2 by omega] using this.1
    · rw [List.getElem?_append_right (by simp; omega)]
      simpa [show (i + 1) * 2 + 1 - 2 = i * 2 + 1 by omega] using this.2
theorem swB_order {m : List (List Int)} {i : Nat} (h : ¬ (i / 125 < i / 25 % 5 ∧ i / 5 % 5 < i % 5)) : swB m (decS i) = false := by
  rw [Bool.eq_false_iff]
  intro e
  obtain ⟨a, b, c, d, e1, h1⟩ := swF_iff.1 e
  obtain ⟨h2, h3, -⟩ := four_iff.1 h1
  unfold decS at e1
  simp only [Sw.mk.injEq] at e1
  omega
theorem dec_pair (p q : Nat) (hq : q < 25) : decS (25 * p + q) = ⟨((p / 5 : Nat) : Int), ((p % 5 : Nat) : Int), ((q / 5 : Nat) : Int), ((q % 5 : Nat) : Int)⟩ := by
  unfold decS
  rw [show (25 * p + q) / 125 = p / 5 by omega, show (25 * p + q) / 25 % 5 = p % 5 by omega, show (25 * p + q) / 5 % 5 = q / 5 by omega, show (25 * p + q) % 5 = q % 5 by omega]
theorem upS_in (m : List (List Int)) (p : Nat) : upS m (25 * p + kp 0) = upS m (25 * p) :=
  upS_skip (by omega) fun i h1 h2 => swB_order (by rw [kp_zero] at h2; omega)
theorem upS_q (m : List (List Int)) (p q : Nat) (hq : q < 10) : upS m (25 * p + kp (q + 1)) = upS m (25 * p + kp q + 1) := by
  obtain ⟨h1, h2, h3⟩ := kp_next q hq
  refine upS_skip (by omega) fun i g1 g2 => swB_order ?_
  have := h3 (i - 25 * p) (by omega) (by omega) (by omega)
  omega
theorem upS_p (m : List (List Int)) (p : Nat) (hp : p < 10) : upS m (25 * kp (p + 1)) = upS m (25 * kp p + kp 10) := by
  obtain ⟨h1, h2, h3⟩ := kp_next p hp
  rw [kp_ten]
  refine upS_skip (by omega) fun i g1 g2 => swB_order ?_
  have := h3 (i / 25) (by omega) (by omega) (by omega)
  omega
theorem upS_first (m : List (List Int)) : upS m (25 * kp 0) = [] := by
  rw [upS_skip (k := 0) (by omega) fun i _ h2 => swB_order (by rw [kp_zero] at h2; omega)]; rfl
theorem own_not_blk {w : World} {b1 e1 n1 z1 g n : Nat} {T : TypeId} {F : Nat → Int} {v1 : Value} {xs : List Value} (h1 : w.ownsRow b1 e1 z1 v1 n1 xs) (h2 : Blk w g T n F) (hne : e1 ≠ T) : v1.ownBlock ≠ some g := by
  rcases h1.2 with ⟨rfl, _⟩ | ⟨g1, c1, cur1, rfl, _, hg1, _⟩
  · simp [Value.ownBlock]
  · intro e
    simp only [Value.ownBlock, Option.some.injEq] at e
    subst e
    unfold Blk at h2
    rw [hg1] at h2
    simp only [Option.some.injEq, Obj.cells.injEq] at h2
    exact hne h2.2.1
/-- Two integers in a row, loaded as an array. -/
theorem wpList_loadPair {ops : Array Oper} {rest : List Oper} {o : Oper} {a : Act} {Q : Exit → Act → World → Prop} {W : World} {g k p q : Nat} (h0 : W.cell? ⟨g, k, none⟩ = some (.int .i64 (p : Int))) (h1 : W.cell? ⟨g, k + 1, none⟩ = some (.int .i64 (q : Int)))
    (d : Tmp) (_hd : o.dst = some d) (hgd : o.guard = none) (x : Operand) (ho : o.op = .load 142 x) (hx : a.eval x = .pointer (some ⟨g, k, none⟩))
    (h : wpList Tryz.prog ops Q rest (a.put o.dst (.agg (vec 2 fun i => ((pickN p q i : Nat) : Int)))) W) : wpList Tryz.prog ops Q (o :: rest) a W := by
  refine wpList_plain hgd fun K hK => ?_
  have : (execOp a.eval o).run Tryz.prog W = .ok (.value (.agg (vec 2 fun i => ((pickN p q i : Nat) : Int)))) W := by
    unfold execOp
    simp only [ho, hx]
    go_simp
    rfl
  unfold Oper.wp
  rw [this]
  exact hK _ _ h
theorem Tryz.sizePair : (Tryz.prog.info? 142).map (·.size) = some 2 := by kernel_rfl
theorem Tryz.zeroPair (w : World) : (zeroValue 142).run Tryz.prog w = .ok (.agg (vec 2 fun _ => 0)) w := Tryz.zeroValue142 w
set_option maxRecDepth 100000 in
set_option maxHeartbeats 4000000 in
theorem switches_any (R C : Nat) (f : Nat → Nat → Int) (w : World) (hI : Img R C f) : Calls Tryz.prog 101 #[.agg (vec 25 (imgF R C f))] w (SwsRes (swsM (mkM R C f)) w) := by
  have HHAS := hide fun s w => hasSwitch_any (imgF R C f) s w
  have HH : Hid (∀ s, hasF (imgF R C f) s = swB (mkM R C f) s) := hide fun s => by rw [hasF_img hI, swB_mk hI]
  obtain ⟨m, hm⟩ : ∃ m, m = mkM R C f := ⟨_, rfl⟩
  obtain ⟨F, hF⟩ : ∃ F, F = imgF R C f := ⟨_, rfl⟩
  rw [← hm, ← hF] at HH; rw [← hF] at HHAS; rw [← hm, ← hF]
  clear hm hF hI
  go_enter Tryz.func101, Tryz.ntmps101
  go_wp2_with (first | (with_reducible refine wpList_boxVec 25 F 1 rfl rfl (.tmp 0) rfl rfl ?_; intro w1 h1 b1 s1) | (refine (pairsBelow_any _).mono ?_; rintro e w2 ⟨pv, rfl, hp, hb2⟩; have HP0 := hide (ownA_base hp (show w.heap.size + 1 ≤ w1.heap.size by omega)); have HF0 := hide (blk_below h1 hb2); have HB0 := hide (b1.trans (hb2.mono b1.size)); have HZ := hide (show w.heap.size + 1 ≤ w2.heap.size by have := hb2.size; omega); rw [pairs_len] at HP0; obtain ⟨gp, cp, rfl, -⟩ := ownA_some HP0.out (by decide); clear hp hb2 h1 b1 s1))
  go_loopw [3, 13] (fun u t w' => ∃ (p : Nat) (v : Value), p ≤ 10 ∧ t = .int .i64 p ∧ v = u ∧ OwnSws w' (w.heap.size + 1) v (upS m (25 * kp p)) ∧ w'.ownsRow (w.heap.size + 1) 142 2 (.slice (some ⟨gp, 0, none⟩) 10 cp) 10 (cellsP (upP 25)) ∧ Blk w' w.heap.size 70 25 F ∧ w.heap.size + 1 ≤ w'.heap.size ∧ Below w.heap.size w w') (fun _ t _ => 10 - (intOf t).toNat)
  case atStart => exact ⟨0, _, by omega, rfl, rfl, by rw [upS_first]; exact ownSws_nil _ _, HP0.out, HF0.out, HZ.out, HB0.out⟩
  case round =>
    clear HP0 HF0 HB0 HZ
    obtain ⟨p, v, hp, rfl, rfl, ho, hpr, hf, hz, hb⟩ := hrel
    have HO := hide ho; have HP := hide hpr; have HF := hide hf; have HZ := hide hz; have HB := hide hb
    clear ho hpr hf hz hb
    by_cases hlt : p < 10
    · have hpI : (p : Int) < 10 := by omega
      have HKP := hide (kp_in p hlt)
      have HPT := hide (cellsP_at _ _ _ _ (pairs_at p hlt))
      have HUP := hide (upS_p m p hlt)
      obtain ⟨A, hA⟩ : ∃ A, A = kp p := ⟨_, rfl⟩
      have HA := hide hA
      rw [← hA] at HO HKP HPT HUP
      clear hA
      obtain ⟨y1, hy1⟩ : ∃ y, y = A / 5 := ⟨_, rfl⟩
      obtain ⟨y2, hy2⟩ : ∃ y, y = A % 5 := ⟨_, rfl⟩
      have HY1 := hide hy1; have HY2 := hide hy2
      rw [← hy1, ← hy2] at HPT
      have q0 := HP.out.cellAt (p * 2) (by omega)
      have q1 := HP.out.cellAt (p * 2 + 1) (by omega)
      rw [HPT.out.1] at q0; rw [HPT.out.2] at q1
      rw [← upS_in m A] at HO
      clear hy1 hy2
      go_wp2_with (first | (with_reducible refine wpList_loadPair q0 q1 16 rfl rfl _ rfl rfl ?_) | (with_reducible refine wpList_allocVec 2 6 rfl rfl rfl Tryz.zeroPair ?_; intro w3 h3 b3 s3) | (with_reducible refine wpList_storeVec h3 rfl (.tmp 6) (.tmp 16) rfl rfl rfl Tryz.sizePair ?_; intro w4 h4 g4 s4))
      have b4 := b3.trans (grown_below g4 (fun k hk => by cases hk; exact Nat.le_refl _) b3.size)
      have HO1 := hide (ownSws_below HO.out b4); have HP1 := hide (ownA_below HP.out b4); have HF1 := hide (blk_below HF.out b4); have HB1 := hide (HB.out.trans (b4.mono HB.out.size)); have HY := hide h4
      have HZ1 := hide (show w.heap.size + 1 ≤ w4.heap.size by have := HZ.out; omega)
      obtain ⟨gy, hgy⟩ : ∃ gy, gy = wr.heap.size := ⟨_, rfl⟩
      rw [← hgy] at HY ⊢
      clear q0 q1 h3 b3 s3 h4 g4 s4 b4 HO HP HF HB HZ hgy
      go_loopw [3, 19] (fun u t w' => ∃ (q : Nat) (v : Value), q ≤ 10 ∧ t = .int .i64 q ∧ v = u ∧ OwnSws w' (w.heap.size + 1) v (upS m (25 * A + kp q)) ∧ w'.ownsRow (w.heap.size + 1) 142 2 (.slice (some ⟨gp, 0, none⟩) 10 cp) 10 (cellsP (upP 25)) ∧ Blk w' w.heap.size 70 25 F ∧ Blk w' gy 142 2 (fun i => ((pickN y1 y2 i : Nat) : Int)) ∧ w.heap.size + 1 ≤ w'.heap.size ∧ Below w.heap.size w w') (fun _ t _ => 10 - (intOf t).toNat)
      case atStart => exact ⟨0, _, by omega, rfl, rfl, HO1.out, HP1.out, HF1.out, HY.out, HZ1.out, HB1.out⟩
      case round =>
        clear HO1 HP1 HF1 HY HZ1 HB1
        obtain ⟨q, v, hq, rfl, rfl, ho, hpr, hf, hy, hz, hb⟩ := hrel
        have HO := hide ho; have HP := hide hpr; have HF := hide hf; have HY := hide hy; have HZ := hide hz; have HB := hide hb
        clear ho hpr hf hy hz hb
        by_cases hlq : q < 10
        · have hqI : (q : Int) < 10 := by omega
          have HKQ := hide (kp_in q hlq)
          have HPT2 := hide (cellsP_at _ _ _ _ (pairs_at q hlq))
          have HUQ := hide (upS_q m A q hlq)
          have HLEN := hide (upS_len m (25 * A + kp q))
          have HDEC := hide (dec_pair A (kp q) HKQ.out.1)
          have HYES := hide (fun h => upS_yes (m := m) (k := 25 * A + kp q) h)
          have HNO := hide (fun h => upS_no (m := m) (k := 25 * A + kp q) h)
          obtain ⟨B, hB⟩ : ∃ B, B = kp q := ⟨_, rfl⟩
          rw [← hB] at HO HKQ HPT2 HUQ HLEN HDEC HYES HNO
          clear hB
          obtain ⟨x1, hx1⟩ : ∃ y, y = B / 5 := ⟨_, rfl⟩
          obtain ⟨x2, hx2⟩ : ∃ y, y = B % 5 := ⟨_, rfl⟩
          rw [← hx1, ← hx2] at HPT2 HDEC
          rw [← HY1.out, ← HY2.out] at HDEC
          rw [HDEC.out] at HYES HNO
          obtain ⟨s, hs⟩ : ∃ s : Sw, s = ⟨y1, y2, x1, x2⟩ := ⟨_, rfl⟩
          have HSV := hide (show Value.agg #[.int .i64 (y1 : Int), .int .i64 (y2 : Int), .int .i64 (x1 : Int), .int .i64 (x2 : Int)] = swV s by rw [hs]; rfl)
          rw [← hs] at HYES HNO
          have q0 := HP.out.cellAt (q * 2) (by omega)
          have q1 := HP.out.cellAt (q * 2 + 1) (by omega)
          rw [HPT2.out.1] at q0; rw [HPT2.out.2] at q1
          have HLN : Hid (25 * A + B < 1000) := hide (by have := HKP.out.1; have := HKQ.out.1; omega)
          clear hx1 hx2 hs
          cases hsb : swB m s with
          | false =>
            have HSB := hide hsb
            have HN := hide (HNO.out hsb)
            clear hsb
            go_wp2_with (first | (with_reducible refine wpList_loadPair q0 q1 22 rfl rfl _ rfl rfl ?_) | (with_reducible refine wpList_allocVec 2 8 rfl rfl rfl Tryz.zeroPair ?_; intro w5 h5 b5 s5) | ((with_reducible refine wpList_storeVec h5 rfl (.tmp 8) (.tmp 22) rfl rfl rfl Tryz.sizePair ?_); intro w6 h6 g6 s6; have b6 := b5.trans (grown_below g6 (fun k hk => by cases hk; exact Nat.le_refl _) b5.size); have HO1 := hide (ownSws_below HO.out b6); have HP1 := hide (ownA_below HP.out b6); have HF1 := hide (blk_below HF.out b6); have HB1 := hide (HB.out.trans (b6.mono HB.out.size)); have HYB := hide (blk_below HY.out b6); have hz6 : w.heap.size + 1 ≤ w6.heap.size := Nat.le_trans HZ.out b6.size; have HZ1 := hide hz6; have c0 : w6.cell? ⟨gy, 0, none⟩ = some (.int .i64 (y1 : Int)) := blk_cell HYB.out 0 (by decide); have c1 : w6.cell? ⟨gy, 1, none⟩ = some (.int .i64 (y2 : Int)) := blk_cell HYB.out 1 (by decide); have c2 : w6.cell? ⟨wr.heap.size, 0, none⟩ = some (.int .i64 (x1 : Int)) := blk_cell h6 0 (by decide); have c3 : w6.cell? ⟨wr.heap.size, 1, none⟩ = some (.int .i64 (x2 : Int)) := blk_cell h6 1 (by decide); clear h5 b5 s5 h6 g6 s6 b6 q0 q1 hz6) | ((with_reducible refine wpList_allocSw 9 rfl rfl rfl ?_); intro w7 h7 b7 s7) | ((refine wpList_storeSw h7 s rfl (.tmp 9) (.tmp 31) rfl rfl HSV.out ?_); intro w8 h8 g8 s8; have b8 := b7.trans (grown_below g8 (fun k hk => by cases hk; exact Nat.le_refl _) b7.size); replace HO1 := hide (ownSws_below HO1.out b8); replace HP1 := hide (ownA_below HP1.out b8); replace HF1 := hide (blk_below HF1.out b8); replace HB1 := hide (HB1.out.trans (b8.mono HB1.out.size)); replace HYB := hide (blk_below HYB.out b8); replace HZ1 := hide (Nat.le_trans HZ1.out b8.size); clear h7 b7 s7 g8 s8 b8 c0 c1 c2 c3) | (with_reducible refine wpList_loadVec HF1.out 32 rfl rfl _ rfl rfl Tryz.underlying70 Tryz.sizeImg ?_) | (with_reducible refine wpList_loadSwC (swC_at h8) 33 rfl rfl _ rfl rfl ?_) | ((with_reducible refine (HHAS.out s _).mono ?_); rw [HH.out, HSB.out]; rintro e w9 ⟨rfl, b9⟩; replace HO1 := hide (ownSws_below HO1.out b9); replace HP1 := hide (ownA_below HP1.out b9); replace HF1 := hide (blk_below HF1.out b9); replace HB1 := hide (HB1.out.trans (b9.mono HB1.out.size)); replace HYB := hide (blk_below HYB.out b9); have h9 := swAt_below h8 b9; replace HZ1 := hide (Nat.le_trans HZ1.out b9.size); clear h8 b9))
            go_roundw
            case rel => exact ⟨q + 1, _, by omega, by go_num, rfl, by rw [HUQ.out, HN.out]; exact HO1.out, HP1.out, HF1.out, HYB.out, HZ1.out, HB1.out⟩
            case measure => simp [intOf]; omega
          | true =>
            have HSB := hide hsb
            have HN := hide (HYES.out hsb)
            clear hsb
            go_wp2_with (first | (with_reducible refine wpList_loadPair q0 q1 22 rfl rfl _ rfl rfl ?_) | (with_reducible refine wpList_allocVec 2 8 rfl rfl rfl Tryz.zeroPair ?_; intro w5 h5 b5 s5) | ((with_reducible refine wpList_storeVec h5 rfl (.tmp 8) (.tmp 22) rfl rfl rfl Tryz.sizePair ?_); intro w6 h6 g6 s6; have b6 := b5.trans (grown_below g6 (fun k hk => by cases hk; exact Nat.le_refl _) b5.size); have HO1 := hide (ownSws_below HO.out b6); have HP1 := hide (ownA_below HP.out b6); have HF1 := hide (blk_below HF.out b6); have HB1 := hide (HB.out.trans (b6.mono HB.out.size)); have HYB := hide (blk_below HY.out b6); have hz6 : w.heap.size + 1 ≤ w6.heap.size := Nat.le_trans HZ.out b6.size; have HZ1 := hide hz6; have c0 : w6.cell? ⟨gy, 0, none⟩ = some (.int .i64 (y1 : Int)) := blk_cell HYB.out 0 (by decide); have c1 : w6.cell? ⟨gy, 1, none⟩ = some (.int .i64 (y2 : Int)) := blk_cell HYB.out 1 (by decide); have c2 : w6.cell? ⟨wr.heap.size, 0, none⟩ = some (.int .i64 (x1 : Int)) := blk_cell h6 0 (by decide); have c3 : w6.cell? ⟨wr.heap.size, 1, none⟩ = some (.int .i64 (x2 : Int)) := blk_cell h6 1 (by decide); clear h5 b5 s5 h6 g6 s6 b6 q0 q1 hz6) | ((with_reducible refine wpList_allocSw 9 rfl rfl rfl ?_); intro w7 h7 b7 s7) | ((refine wpList_storeSw h7 s rfl (.tmp 9) (.tmp 31) rfl rfl HSV.out ?_); intro w8 h8 g8 s8; have b8 := b7.trans (grown_below g8 (fun k hk => by cases hk; exact Nat.le_refl _) b7.size); replace HO1 := hide (ownSws_below HO1.out b8); replace HP1 := hide (ownA_below HP1.out b8); replace HF1 := hide (blk_below HF1.out b8); replace HB1 := hide (HB1.out.trans (b8.mono HB1.out.size)); replace HYB := hide (blk_below HYB.out b8); replace HZ1 := hide (Nat.le_trans HZ1.out b8.size); clear h7 b7 s7 g8 s8 b8 c0 c1 c2 c3) | (with_reducible refine wpList_loadVec HF1.out 32 rfl rfl _ rfl rfl Tryz.underlying70 Tryz.sizeImg ?_) | (with_reducible refine wpList_loadSwC (swC_at h8) 33 rfl rfl _ rfl rfl ?_) | ((with_reducible refine (HHAS.out s _).mono ?_); rw [HH.out, HSB.out]; rintro e w9 ⟨rfl, b9⟩; replace HO1 := hide (ownSws_below HO1.out b9); replace HP1 := hide (ownA_below HP1.out b9); replace HF1 := hide (blk_below HF1.out b9); replace HB1 := hide (HB1.out.trans (b9.mono HB1.out.size)); replace HYB := hide (blk_below HYB.out b9); have h9 := swAt_below h8 b9; replace HZ1 := hide (Nat.le_trans HZ1.out b9.size); clear h8 b9) | (with_reducible refine wpList_loadSwC (swC_at h9) 36 rfl rfl _ rfl rfl ?_) | (refine wpList_buildOneA (swA s) _ 37 rfl rfl (.tmp 36) rfl rfl Tryz.underlying66 Tryz.infoSw (by decide) (by decide) rfl ?_) | (at_builtin; refine wpList_pushA HO1.out (swA s) _ rfl _ _ rfl Tryz.underlying66 Tryz.infoSw rfl (by decide) (by decide) rfl rfl rfl (swA_one s) (by have := HLEN.out; have := HLN.out; omega) HZ1.out ?_; intro g cap wa hown ba ga ata lta))
            go_roundw
            case rel =>
              refine ⟨q + 1, _, by omega, by go_num, rfl, ?_, ?_, ?_, ?_, ?_, ?_⟩
              · rw [HUQ.out, HN.out]
                unfold OwnSws
                rw [cellsS_snoc, List.length_append]
                exact hown
              · exact HP1.out.kept ga (ownA_types HP1.out HO1.out (by decide))
              · exact blk_grown HF1.out ga (by intro e; have := HO1.out.lt _ e; omega)
              · exact blk_grown HYB.out ga (own_not_blk HO1.out HYB.out (by decide))
              · exact Nat.le_trans HZ1.out ba.size
              · exact HB1.out.trans (ba.mono (by omega))
            case measure => simp [intOf]; omega
        · obtain rfl : q = 10 := by omega
          go_wp2
          go_roundw
          case rel => exact ⟨p + 1, _, by omega, by go_num, rfl, by rw [HUP.out]; exact HO.out, HP.out, HF.out, HZ.out, HB.out⟩
          case measure => simp [intOf]; omega
    · obtain rfl : p = 10 := by omega
      go_wp2
      go_ret
      exact ⟨_, rfl, ownSws_base HO.out (Nat.le_succ _), HB.out⟩
end Go.Proofs.YtpfaaglaeholbaaGreat
/-
  What the search meets: images as keys, a queue of images, the map of the last switches.
-/
namespace Go.Proofs.YtpfaaglaeholbaaGreat
open Go.RowKit
set_option maxRecDepth 100000

theorem vec_inj {n : Nat} {F G : Nat → Int} (h : vec n F = vec n G) : ∀ i, i < n → F i = G i := fun i hi => by
  have h1 := vec_at n F i hi
  rw [h, vec_at n G i hi] at h1
  simpa using h1.symm
/-- The cells of an image, by number. -/
def imgC (R C : Nat) (x : List (List Int)) : Nat → Int := imgF R C (cellM x)
theorem imgC_mk (R C : Nat) (f : Nat → Nat → Int) : imgC R C (mkM R C f) = imgF R C f := by
  funext i
  unfold imgC imgF
  by_cases h : i / 5 < R ∧ i % 5 < C
  · rw [if_pos h, if_pos h]; exact cell_mk R C f h.1 h.2
  · rw [if_neg h, if_neg h]
theorem imgC_wf {R C : Nat} {x : List (List Int)} (h : Node R C x) : WfI (imgC R C x) := by
  obtain ⟨f, rfl, hI⟩ := h
  rw [imgC_mk]; exact fun i => imgF_range hI i
theorem imgC_inj {R C : Nat} {x y : List (List Int)} (hx : Node R C x) (hy : Node R C y) (h : vec 25 (imgC R C x) = vec 25 (imgC R C y)) : x = y := by
  obtain ⟨f, rfl, hI⟩ := hx
  obtain ⟨g, rfl, -⟩ := hy
  have h5 := hI.r2; have h6 := hI.c2
  rw [imgC_mk, imgC_mk] at h
  exact mkM_congr fun y x hy hx => by
    have h1 := vec_inj h (5 * y + x) (by omega)
    rw [imgF_at R C f y x (by omega), imgF_at R C g y x (by omega), if_pos ⟨hy, hx⟩, if_pos ⟨hy, hx⟩] at h1
    exact h1
theorem imgC_flip {R C : Nat} {x : List (List Int)} {s : Sw} (w : World) (h : Node R C x) (hs : swB x s = true) :
    Calls Tryz.prog 102 #[.agg (vec 25 (imgC R C x)), swV s] w fun e w' => e = .returned (.agg (vec 25 (imgC R C (flipM x s)))) ∧ Below w.heap.size w w' := by
  obtain ⟨f, rfl, hI⟩ := h
  rw [swB_mk hI] at hs
  rw [flipM_mk hI, imgC_mk, imgC_mk]
  exact switched_img R C f s w hI hs
theorem imgC_switches {R C : Nat} {x : List (List Int)} (w : World) (h : Node R C x) : Calls Tryz.prog 101 #[.agg (vec 25 (imgC R C x))] w (SwsRes (swsM x) w) := by
  obtain ⟨f, rfl, hI⟩ := h
  rw [imgC_mk]; exact switches_any R C f w hI

/-- Whether two images are the same. -/
theorem img_key2 {F : Nat → Int} (h : WfI F) : ∃ L, Tryz.prog.keyLits (Tryz.prog.types.size + 1) 70 (vecL 25 F) = some L ∧ (Value.agg (vec 25 F)).formed Tryz.prog 70 = true ∧ keyOf Tryz.prog 70 (.agg (vec 25 F)) = some (.string (keyBytes L)) := by
  have hs : ∃ d, Tryz.prog.types.size + 1 = d + 3 := ⟨Tryz.prog.types.size - 2, by have : 3 ≤ Tryz.prog.types.size := of_decide_eq_true (by kernel_rfl); omega⟩
  obtain ⟨d, hd⟩ := hs
  obtain ⟨L, hL⟩ := imgLitM d F (wfI_lit h)
  have hf : (Value.agg (vec 25 F)).formed Tryz.prog 70 = true := by
    simp [Value.formed, Tryz.underlying70, Tryz.cellsImg, vec_size]
  have hc : (Value.agg (vec 25 F)).cells.toList = vecL 25 F := by simp [Value.cells, vec]
  refine ⟨L, by rw [hd]; exact hL, hf, ?_⟩
  unfold keyOf
  rw [Tryz.underlying70]
  simp only [Tryz.keyTyM, hf, Bool.and_self, if_true, hc, hd, hL, Option.map_some]
theorem run_eqImg {F G : Nat → Int} (hF : WfI F) (hG : WfI G) (b : Bool) (hb : b = true ↔ vec 25 F = vec 25 G) (w : World) : (binOp .eql 70 (.agg (vec 25 F)) (.agg (vec 25 G))).run Tryz.prog w = .ok (.bool b) w := by
  obtain ⟨la, ha, fa, ka⟩ := img_key2 hF
  obtain ⟨lb, hl, fb, kb⟩ := img_key2 hG
  have hm : Tryz.prog.types.size + 1 ≤ 10000 := of_decide_eq_true (by kernel_rfl)
  obtain ⟨r, hr, hiff⟩ := run_equalIn_deep (10000 - (Tryz.prog.types.size + 1)) (Tryz.prog.types.size + 1) 70 Tryz.keyTyM w _ _ (.agg (vec 25 F)) (.agg (vec 25 G)) la lb fa fb (by rw [show (Value.agg (vec 25 F)).cells.toList = vecL 25 F by simp [Value.cells, vec]]; exact ha) (by rw [show (Value.agg (vec 25 G)).cells.toList = vecL 25 G by simp [Value.cells, vec]]; exact hl)
  rw [show 10000 - (Tryz.prog.types.size + 1) + (Tryz.prog.types.size + 1) = 10000 by omega] at hr
  have he : r = b := by
    rw [Bool.eq_iff_iff, hiff, hb]
    constructor
    · intro e
      subst e
      have := Tryz.imgLaw.inj ka kb
      simpa using this
    · intro e
      have e2 : vecL 25 F = vecL 25 G := by simpa [vec] using e
      rw [e2, hl] at ha
      exact (Option.some.inj ha).symm
  rw [← he]
  simp only [binOp]
  simp [Op.equal, Op.maxDepth, hr]

/-- The cells of images, one behind the other. -/
def queL (R C : Nat) (l : List (List (List Int))) : List Value := l.flatMap fun x => vecL 25 (imgC R C x)
theorem queL_nil (R C : Nat) : queL R C [] = [] := rfl
theorem queL_cons (R C : Nat) (x : List (List Int)) (l : List (List (List Int))) : queL R C (x :: l) = vecL 25 (imgC R C x) ++ queL R C l := by simp [queL]
theorem queL_snoc (R C : Nat) (x : List (List Int)) (l : List (List (List Int))) : queL R C (l ++ [x]) = queL R C l ++ vecL 25 (imgC R C x) := by simp [queL]
theorem queL_tail (R C : Nat) (l : List (List (List Int))) {a : Nat} (h : a < l.length) : (queL R C (l.drop a)).drop 25 = queL R C (l.drop (a + 1)) := by
  rw [List.drop_eq_getElem_cons h, queL_cons, List.drop_append_of_le_length (by rw [vecL_len]; exact Nat.le_refl _), List.drop_of_length_le (by rw [vecL_len]; exact Nat.le_refl _), List.nil_append]
theorem queL_head {R C : Nat} {l : List (List (List Int))} {a : Nat} (h : a < l.length) : queL R C (l.drop a) = vecL 25 (imgC R C (l.getD a [])) ++ queL R C (l.drop (a + 1)) := by
  rw [List.drop_eq_getElem_cons h, queL_cons]
  simp [List.getD_eq_getElem?_getD, List.getElem?_eq_getElem h]
theorem ownQ_head {w : World} {base n : Nat} {v : Value} {F : Nat → Int} {ys : List Value} (h : OwnQ w base 70 25 v (n + 1) (vecL 25 F ++ ys)) :
    ∃ g o cap, v = .slice (some ⟨g, o, none⟩) (n + 1) cap ∧ n + 1 ≤ cap ∧ base ≤ g ∧ g < w.heap.size ∧ w.rangeAt g o (vecL 25 F) := by
  obtain ⟨g, o, cap, rfl, h1, -, h2, h3, h4⟩ := ownQ_slice h
  refine ⟨g, o, cap, rfl, h1, h2, h3, fun j u hj => ?_⟩
  have hj' : j < 25 := by have := (List.getElem?_eq_some_iff.1 hj).1; rwa [vecL_len] at this
  rw [h4 j (by omega), List.getElem?_append_left (by rw [vecL_len]; exact hj')]
  exact hj
/-- The last switch of a list. -/
def lastS (p : List Sw) : Sw := p.getLastD zeroSw
theorem lastS_snoc (p : List Sw) (s : Sw) : lastS (p ++ [s]) = s := by simp [lastS]
/-- The entries of the map. -/
def ksOf (R C : Nat) (L : List (List (List Int))) (W : List (List Sw)) : List ((Nat → Int) × Sw) := (List.range L.length).map fun i => (imgC R C (L.getD i []), lastS (W.getD i []))
theorem ksOf_len (R C : Nat) (L : List (List (List Int))) (W : List (List Sw)) : (ksOf R C L W).length = L.length := by simp [ksOf]
theorem ksOf_snoc {R C : Nat} {L : List (List (List Int))} {W : List (List Sw)} (hl : W.length = L.length) (x : List (List Int)) (p : List Sw) : ksOf R C (L ++ [x]) (W ++ [p]) = ksOf R C L W ++ [(imgC R C x, lastS p)] := by
  unfold ksOf
  rw [List.length_append, List.length_singleton, List.range_succ, List.map_append]
  have e1 := getD_snoc_eq W p []
  rw [hl] at e1
  rw [List.map_singleton, getD_snoc_eq, e1]
  congr 1
  refine List.map_congr_left fun i hi => ?_
  have hi := List.mem_range.1 hi
  rw [getD_snoc_lt _ _ _ hi, getD_snoc_lt _ _ _ (by rw [hl]; exact hi)]
theorem ksOf_mem {R C : Nat} {L : List (List (List Int))} {W : List (List Sw)} {p : (Nat → Int) × Sw} (h : p ∈ ksOf R C L W) : ∃ i, i < L.length ∧ p = (imgC R C (L.getD i []), lastS (W.getD i [])) := by
  unfold ksOf at h
  obtain ⟨i, hi, rfl⟩ := List.mem_map.1 h
  exact ⟨i, List.mem_range.1 hi, rfl⟩
theorem ksOf_at {R C : Nat} {L : List (List (List Int))} {W : List (List Sw)} {i : Nat} (h : i < L.length) : (imgC R C (L.getD i []), lastS (W.getD i [])) ∈ ksOf R C L W := List.mem_map.2 ⟨i, List.mem_range.2 h, rfl⟩
section
variable {R C : Nat} {m : List (List Int)} {L : List (List (List Int))} {W : List (List Sw)} {a K : Nat}
theorem ksOf_wf (hm : Node R C m) (h : Bfs m L W a K) : ∀ p ∈ ksOf R C L W, WfI p.1 := fun p hp => by
  obtain ⟨i, hi, rfl⟩ := ksOf_mem hp
  exact imgC_wf (bfs_node hm h hi)
theorem ksOf_in (hm : Node R C m) (h : Bfs m L W a K) {x : List (List Int)} (hx : Node R C x) : (∃ p ∈ ksOf R C L W, vec 25 p.1 = vec 25 (imgC R C x)) ↔ x ∈ L := by
  constructor
  · rintro ⟨p, hp, e⟩
    obtain ⟨i, hi, rfl⟩ := ksOf_mem hp
    rw [← imgC_inj (bfs_node hm h hi) hx e]
    exact getD_mem hi
  · intro hx
    obtain ⟨i, hi, rfl⟩ := mem_getD [] hx
    exact ⟨_, ksOf_at hi, rfl⟩
end
/-- The number of the switch before number k. -/
def befS (S : List Sw) : Nat → Nat
  | 0 => 0
  | k + 1 => numS (S.getD k zeroSw)
theorem sws_up (x : List (List Int)) : (swsM x).Pairwise fun s t => numS s < numS t := by
  unfold swsM upS
  rw [List.pairwise_map]
  exact (List.pairwise_lt_range.filter _).imp fun h => by rw [num_dec, num_dec]; omega
theorem sws_num {x : List (List Int)} {i j : Nat} (hij : i < j) (hj : j < (swsM x).length) : numS ((swsM x).getD i zeroSw) < numS ((swsM x).getD j zeroSw) := by
  have h := List.pairwise_iff_getElem.1 (sws_up x) i j (by omega) hj hij
  rw [List.getD_eq_getElem?_getD, List.getD_eq_getElem?_getD, List.getElem?_eq_getElem hj, List.getElem?_eq_getElem (show i < (swsM x).length by omega)]
  exact h
theorem befS_le {x : List (List Int)} {k : Nat} (hk : k < (swsM x).length) : befS (swsM x) k ≤ numS ((swsM x).getD k zeroSw) := by
  cases k with
  | zero => exact Nat.zero_le _
  | succ k => exact Nat.le_of_lt (sws_num (Nat.lt_succ_self k) hk)
theorem befS_all {R C : Nat} {x : List (List Int)} (hx : Node R C x) {k : Nat} (hk : k < (swsM x).length) : ∀ s, swB x s = true → numS s < numS ((swsM x).getD k zeroSw) → numS s ≤ befS (swsM x) k := fun s hs hn => by
  obtain ⟨i, hi, rfl⟩ := mem_getD zeroSw ((sws_mem hx).2 hs)
  have hik : i < k := by
    rcases Nat.lt_trichotomy i k with h | rfl | h
    · exact h
    · omega
    · have := sws_num h hi; omega
  obtain ⟨q, rfl⟩ : ∃ q, k = q + 1 := ⟨k - 1, by omega⟩
  show numS _ ≤ numS _
  by_cases e : i = q
  · subst e; exact Nat.le_refl _
  · exact Nat.le_of_lt (sws_num (show i < q by omega) (by omega))
theorem befS_end {R C : Nat} {x : List (List Int)} (hx : Node R C x) : befS (swsM x) (swsM x).length ≤ 625 ∧ ∀ s, swB x s = true → numS s ≤ befS (swsM x) (swsM x).length := by
  cases hl : (swsM x).length with
  | zero =>
    refine ⟨Nat.zero_le _, fun s hs => ?_⟩
    have := (sws_mem hx).2 hs
    rw [List.eq_nil_of_length_eq_zero hl] at this
    cases this
  | succ k =>
    have hm : (swsM x).getD k zeroSw ∈ swsM x := getD_mem (by omega)
    obtain ⟨i, hi, e⟩ := swB_num hx ((sws_mem hx).1 hm)
    refine ⟨by show numS _ ≤ 625; rw [e, num_dec]; omega, fun s hs => ?_⟩
    obtain ⟨j, hj, rfl⟩ := mem_getD zeroSw ((sws_mem hx).2 hs)
    show numS _ ≤ numS _
    by_cases e : j = k
    · subst e; exact Nat.le_refl _
    · exact Nat.le_of_lt (sws_num (show j < k by omega) (by omega))
theorem sws_at {R C : Nat} {x : List (List Int)} (hx : Node R C x) {k : Nat} (hk : k < (swsM x).length) : swB x ((swsM x).getD k zeroSw) = true := (sws_mem hx).1 (getD_mem hk)
end Go.Proofs.YtpfaaglaeholbaaGreat
