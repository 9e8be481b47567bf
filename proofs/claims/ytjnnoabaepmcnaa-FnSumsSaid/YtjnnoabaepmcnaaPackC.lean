/-
  Texts of this claim, one behind the other: LMap, CountL, LEnt, MatR, Img, Ov.
-/
import Derived.Test.YtjnnoabaepmcnaaPackB
import Derived.Test.YtjnnoabaepmcnaaPackA
/-
  A map of lines by its content: which keys are there, and what stands at each.
-/
namespace Go.Proofs.Ytjnnoabaepmcnaa
open Go.RowKit Go.Maps
open Go.ChangeMaps (setBlock)
open Go.WideElems (Fit rd rg pl rd_key)
set_option maxRecDepth 100000

theorem Try.zeroInt (w : World) : (zeroValue 3).run Try.prog w = .ok (.int .i64 0) w := by kernel_rfl
def ReadsAs (D : DataW Unit) (A : Key → Bool) (F : Key → Int) : Prop := ∀ k, k.wf → has D (kl k) = A k ∧ D.atKey (kl k) (.lit (.int .i64 0)) = .lit (.int .i64 (F k))
/-- Block b is a map of at most n lines: A says which are there, F what stands at each. -/
def LM (w : World) (b n : Nat) (A : Key → Bool) (F : Key → Int) : Prop := ∃ D : DataW Unit, w.ownsMap Try.prog 110 (plainElem (H := Unit) Try.prog 3) b n D ∧ ReadsAs D A F

theorem lm_heap {w w' : World} {b n : Nat} {A : Key → Bool} {F : Key → Int} (h : LM w b n A F) (e : w'.heap[b]? = w.heap[b]?) : LM w' b n A F := by
  obtain ⟨D, ⟨es, clock, hb, r⟩, hr⟩ := h
  exact ⟨D, ⟨es, clock, e.trans hb, r⟩, hr⟩
theorem lm_lt {w : World} {b n : Nat} {A : Key → Bool} {F : Key → Int} (h : LM w b n A F) : b < w.heap.size := by
  obtain ⟨D, hD, -⟩ := h
  exact hD.lt
theorem lm_below {w w' : World} {b n : Nat} {A : Key → Bool} {F : Key → Int} (h : LM w b n A F) (hb : Below w.heap.size w w') : LM w' b n A F := lm_heap h (hb.block b (lm_lt h))
theorem lm_grown {w w' : World} {b n : Nat} {A : Key → Bool} {F : Key → Int} {row : Option Nat} (h : LM w b n A F) (hg : w.grownBy w' row) (hr : row ≠ some b) : LM w' b n A F := lm_heap h (hg.block b (lm_lt h) (Ne.symm hr))
theorem lm_mono {w : World} {b n n' : Nat} {A : Key → Bool} {F : Key → Int} (h : LM w b n A F) (hn : n ≤ n') : LM w b n' A F := by
  obtain ⟨D, hD, hr⟩ := h
  exact ⟨D, hD.mono hn, hr⟩
theorem lm_congr {w : World} {b n : Nat} {A A' : Key → Bool} {F F' : Key → Int} (h : LM w b n A F) (hA : ∀ k, k.wf → A k = A' k) (hF : ∀ k, k.wf → F k = F' k) : LM w b n A' F' := by
  obtain ⟨D, hD, hr⟩ := h
  exact ⟨D, hD, fun k hk => by rw [← hA k hk, ← hF k hk]; exact hr k hk⟩
theorem lm_made (w : World) : LM (w.alloc (.map #[] 0)) w.heap.size 0 (fun _ => false) (fun _ => 0) :=
  ⟨.map [], World.ownsMap_made _ _ _ _, fun _ _ => ⟨rfl, rfl⟩⟩

def setK {α : Type} (f : Key → α) (k : Key) (v : α) : Key → α := fun z => if z = k then v else f z
theorem readsAs_put {D : DataW Unit} {A : Key → Bool} {F : Key → Int} (hD : IsMap D) (h : ReadsAs D A F) {k : Key} (hk : k.wf) (v : Int) : ReadsAs (D.put (kl k) (.lit (.int .i64 v))) (setK A k true) (setK F k v) := by
  intro z hz
  by_cases e : z = k
  · subst e
    simp only [setK, if_true]
    exact ⟨has_put_same hD (kl_key hz) _, atKey_put_same hD (kl_key hz) _ _⟩
  · have hne : kl z ≠ kl k := fun h => e (kl_inj hz hk h)
    simp only [setK, if_neg e]
    rw [has_put_other hne, atKey_put_other hne]
    exact h z hz
theorem readsAs_del {D : DataW Unit} {A : Key → Bool} {F : Key → Int} (h : ReadsAs D A F) {k : Key} (hk : k.wf) : ReadsAs (D.del (kl k)) (setK A k false) (setK F k 0) := by
  intro z hz
  by_cases e : z = k
  · subst e
    simp only [setK, if_true]
    exact ⟨has_del_same, atKey_del_same _⟩
  · have hne : kl z ≠ kl k := fun h => e (kl_inj hz hk h)
    simp only [setK, if_neg e]
    rw [has_del_other hne, atKey_del_other hne]
    exact h z hz
/-- Each key that is there is a line's. -/
theorem lm_key {w : World} {b n : Nat} {D : DataW Unit} (h : w.ownsMap Try.prog 110 (plainElem (H := Unit) Try.prog 3) b n D) {l : Lit} (hl : has D l = true) : ∃ k, k.wf ∧ l = kl k := by
  obtain ⟨es, clock, hb, F, hs, rfl⟩ := h
  obtain ⟨p, hp, hpk⟩ := List.any_eq_true.1 hl
  obtain ⟨x, hx, rfl⟩ := List.mem_map.1 (mem_sorted.1 hp)
  obtain ⟨y, hy⟩ := F.reads x hx
  have h1 := rd_key hy
  obtain ⟨k, hk, hw⟩ := key_inv h1
  refine ⟨k, hw, ?_⟩
  have h2 := WideAt.sameKey_eq hpk
  rw [WideElems.rg_of hy] at h2
  rw [← h2]
  rw [hk, kl_of hw] at h1
  exact (Option.some.inj h1).symm
theorem lm_size {w : World} {b n : Nat} {D : DataW Unit} {A : Key → Bool} {F : Key → Int} (h : w.ownsMap Try.prog 110 (plainElem (H := Unit) Try.prog 3) b n D) (hr : ReadsAs D A F) : (Maps.size D = 0 ↔ ∀ k, k.wf → A k = false) := by
  constructor
  · intro h0 k hk
    obtain ⟨es, rfl⟩ := h.isMap
    have : es = [] := List.eq_nil_of_length_eq_zero h0
    subst this
    rw [← (hr k hk).1]; rfl
  · intro hA
    obtain ⟨es, hes⟩ := h.isMap
    subst hes
    cases es with
    | nil => rfl
    | cons p r =>
      exfalso
      obtain ⟨es', e', _, hk⟩ := h.entries Try.keyLaw
      have hp : p ∈ es' := by cases e'; exact List.mem_cons_self
      have hhas : has (DataW.map (p :: r)) p.1 = true := by
        rw [has_eq, List.any_cons, WideAt.sameKey_self (hk p hp)]; rfl
      obtain ⟨k, hw, hkl⟩ := lm_key h hhas
      have := (hr k hw).1
      rw [← hkl, hhas, hA k hw] at this
      cases this

theorem lm_lookup {w : World} {b n : Nat} {A : Key → Bool} {F : Key → Int} (h : LM w b n A F) {k : Key} (hk : k.wf) : (Instr.lookup 94 (.map (some b)) (keyV k) false).run Try.prog w = .ok (.int .i64 (F k)) w := by
  obtain ⟨D, hD, hr⟩ := h
  obtain ⟨c, hrun, hat, -⟩ := hD.lookup_int Try.keyLaw Try.underlying94 Try.underlying3 (Try.zeroInt w) (kl_of hk)
  have := (hr k hk).2
  rw [hat] at this
  simp only [DataW.lit.injEq, Lit.int.injEq, true_and] at this
  rw [hrun, this]
theorem lm_store {w : World} {b n : Nat} {A : Key → Bool} {F : Key → Int} (h : LM w b n A F) (hn : n < maxLen) {k : Key} (hk : k.wf) {v : Int} (hv : (Lit.int .i64 v).wf = true) :
    ∃ w', (Instr.mapUpdate 94 (.map (some b)) (keyV k) (.int .i64 v)).run Try.prog w = .ok () w' ∧ LM w' b (n + 1) (setK A k true) (setK F k v) ∧ w.grownBy w' (some b) := by
  obtain ⟨D, hD, hr⟩ := h
  obtain ⟨w', h1, h2, h3⟩ := hD.update Try.keyLaw Try.underlying94 hn (kl_of hk) (plainElem_int Try.underlying3 hv)
  exact ⟨w', h1, ⟨_, h2, readsAs_put hD.isMap hr hk v⟩, h3⟩
theorem lm_wf {w : World} {b n : Nat} {A : Key → Bool} {F : Key → Int} (h : LM w b n A F) {k : Key} (hk : k.wf) : (Lit.int .i64 (F k)).wf = true := by
  obtain ⟨D, hD, hr⟩ := h
  obtain ⟨c, -, hat, hw⟩ := hD.lookup_int Try.keyLaw Try.underlying94 Try.underlying3 (Try.zeroInt w) (kl_of hk)
  have := (hr k hk).2
  rw [hat] at this
  simp only [DataW.lit.injEq, Lit.int.injEq, true_and] at this
  rw [← this]; exact hw

/-- 'm[k] += ..': the block before the entry is made, the block behind it, the entry's stamp. -/
structure Ent (b n : Nat) (k : Key) (A : Key → Bool) (F : Key → Int) (E0 E1 : Obj) (st : Nat) : Prop where
  entry : ∀ w : World, (w.heap[b]? = some E0 ∨ w.heap[b]? = some E1) → (Instr.mapEntry 94 (.map (some b)) (keyV k)).run Try.prog w = .ok (.tuple #[.int .i64 (F k), .int .i64 st]) (setBlock w b E1)
  look : ∀ w : World, (w.heap[b]? = some E0 ∨ w.heap[b]? = some E1) → (Instr.lookup 94 (.map (some b)) (keyV k) false).run Try.prog w = .ok (.int .i64 (F k)) w
  store : ∀ (w : World) (v : Int), (Lit.int .i64 v).wf = true → w.heap[b]? = some E1 → ∃ E', (Instr.entryStore 94 (.map (some b)) (.int .i64 st) (.int .i64 v)).run Try.prog w = .ok () (setBlock w b E') ∧ LM (setBlock w b E') b (n + 1) (setK A k true) (setK F k v)
theorem lm_ent {w0 : World} {b n : Nat} {A : Key → Bool} {F : Key → Int} (h : LM w0 b n A F) (hn : n < maxLen) {k : Key} (hk : k.wf) : ∃ E0 E1 st, w0.heap[b]? = some E0 ∧ Ent b n k A F E0 E1 st := by
  have hL := lm_lookup h hk
  have h0 := h
  obtain ⟨D, ⟨es, clock, hb, Ft, hs, hD⟩, hr⟩ := h0
  obtain ⟨v0, st, es1, clock1, e1, e2, l1, l2, hst⟩ := entry_all (b := b) Try.keyLaw Try.underlying94 Try.zeroInt Ft (kl_of hk)
  have hv0 : v0 = .int .i64 (F k) := by
    have := l1 w0 hb
    rw [hL] at this
    simp only [Result.ok.injEq, and_true] at this
    exact this.symm
  subst hv0
  refine ⟨_, .map es1 clock1, st, hb, fun w hw => hw.elim (e1 w) (e2 w), fun w hw => hw.elim (l1 w) (l2 w), fun w v hv hw => ?_⟩
  obtain ⟨es', clock', s1, s2⟩ := hst (.int .i64 v)
  refine ⟨_, s1 w hw, ?_⟩
  obtain ⟨w', u1, u2, -⟩ := lm_store h hn hk hv
  rw [s2 w0 hb] at u1
  simp only [Result.ok.injEq, true_and] at u1
  subst u1
  refine lm_heap u2 ?_
  rw [ChangeMaps.heap_setBlock_same hw, ChangeMaps.heap_setBlock_same hb]
theorem sb_same {w : World} {b : Nat} {o o' : Obj} (h : w.heap[b]? = some o) : (setBlock w b o').heap[b]? = some o' := by
  have := (Array.getElem?_eq_some_iff.1 h).1
  simp [setBlock, this]
theorem sb_other (w : World) {b i : Nat} (o' : Obj) (h : i ≠ b) : (setBlock w b o').heap[i]? = w.heap[i]? := by
  simp [setBlock, Array.getElem?_setIfInBounds_ne (Ne.symm h)]
theorem sb_grown (w : World) (b : Nat) (o' : Obj) : w.grownBy (setBlock w b o') (some b) :=
  ⟨rfl, rfl, rfl, by simp [setBlock], fun i _ hi => sb_other w o' fun e => hi (by rw [e])⟩

theorem lm_drop {w : World} {b n : Nat} {A : Key → Bool} {F : Key → Int} (h : LM w b n A F) {k : Key} (hk : k.wf) (ty : TypeId) :
    ∃ w', (Builtin.delete_ #[94, 110] ty #[.map (some b), keyV k]).run Try.prog w = .ok (.tuple #[]) w' ∧ LM w' b n (setK A k false) (setK F k 0) ∧ w.grownBy w' (some b) ∧ w'.heap.size = w.heap.size := by
  obtain ⟨D, hD, hr⟩ := h
  obtain ⟨w', h1, h2, h3⟩ := hD.drop Try.keyLaw Try.underlying94 (kl_of hk) ty
  refine ⟨w', h1, ⟨_, h2, readsAs_del hr hk⟩, h3.grown, ?_⟩
  obtain ⟨es, c, es', c', -, rfl⟩ := h3
  simp [setBlock]
theorem wpList_deleteLM (w : World) {ops : Array Oper} {rest : List Oper} {o : Oper} {a : Act} {Q : Exit → Act → World → Prop} {b n : Nat} {A : Key → Bool} {F : Key → Int} {k : Key} (hg : o.guard = none) (m x : Operand)
    (hop : o.op = Op.call { callee := Callee.builtin Builtin.delete, args := #[m, x], argTypes := #[94, 110] }) (hm : a.eval m = .map (some b)) (hx : a.eval x = keyV k) (h : LM w b n A F) (hk : k.wf)
    (hK : ∀ w', LM w' b n (setK A k false) (setK F k 0) → w.grownBy w' (some b) → w'.heap.size = w.heap.size → wpList Try.prog ops Q rest (a.put o.dst (.tuple #[])) w') : wpList Try.prog ops Q (o :: rest) a w := by
  refine wpList_plain hg fun K' hK' => ?_
  obtain ⟨w', hrun, r1, r2, r3⟩ := lm_drop h hk o.type
  unfold Oper.wp
  simp [execOp, hop, resolve, invoke, builtin, hm, hx, hrun, Result.andThen]
  exact hK' _ _ (hK w' r1 r2 r3)
theorem wpList_lookupLM (w : World) {ops : Array Oper} {rest : List Oper} {o : Oper} {a : Act} {Q : Exit → Act → World → Prop} {b n : Nat} {A : Key → Bool} {F : Key → Int} {k : Key} (hg : o.guard = none) (m x : Operand)
    (hop : o.op = Op.lookup 94 m x false) (hm : a.eval m = .map (some b)) (hx : a.eval x = keyV k) (h : LM w b n A F) (hk : k.wf)
    (hK : wpList Try.prog ops Q rest (a.put o.dst (.int .i64 (F k))) w) : wpList Try.prog ops Q (o :: rest) a w := by
  refine wpList_plain hg fun K' hK' => ?_
  unfold Oper.wp
  simp [execOp, hop, hm, hx, lm_lookup h hk, Result.andThen]
  exact hK' _ _ hK
theorem wpList_lenLM (w : World) {ops : Array Oper} {rest : List Oper} {o : Oper} {a : Act} {Q : Exit → Act → World → Prop} {b n : Nat} {A : Key → Bool} {F : Key → Int} (hg : o.guard = none) (m : Operand)
    (hop : o.op = Op.call { callee := Callee.builtin Builtin.len, args := #[m], argTypes := #[94] }) (hm : a.eval m = .map (some b)) (h : LM w b n A F)
    (hK : ∀ s : Nat, s ≤ n → (s = 0 ↔ ∀ k : Key, k.wf → A k = false) → wpList Try.prog ops Q rest (a.put o.dst (.int .i64 s)) w) : wpList Try.prog ops Q (o :: rest) a w := by
  refine wpList_plain hg fun K' hK' => ?_
  obtain ⟨D, hD, hr⟩ := h
  have hrun := hD.len Try.underlying94 o.type
  unfold Oper.wp
  simp [execOp, hop, resolve, invoke, builtin, hm, hrun, Result.andThen]
  exact hK' _ _ (hK _ hD.size_le (lm_size hD hr))

/-- 'for k, v := range m' under way: left says which lines are still to come. -/
def LR (w : World) (b r n : Nat) (A : Key → Bool) (F : Key → Int) (left : Key → Bool) (cnt : Nat) : Prop :=
  ∃ (D : DataW Unit) (lf : Lit → Bool), w.ranges Try.prog 110 (plainElem (H := Unit) Try.prog 3) b r n D lf cnt ∧ ReadsAs D A F ∧ ∀ k, k.wf → lf (kl k) = left k
theorem lr_owns {w : World} {b r n : Nat} {A : Key → Bool} {F : Key → Int} {left : Key → Bool} {cnt : Nat} (h : LR w b r n A F left cnt) : LM w b n A F := by
  obtain ⟨D, lf, h1, h2, -⟩ := h
  exact ⟨D, h1.owns, h2⟩
theorem lr_left {w : World} {b r n : Nat} {A : Key → Bool} {F : Key → Int} {left : Key → Bool} {cnt : Nat} (h : LR w b r n A F left cnt) : w.rangeLeft b r = cnt := by
  obtain ⟨D, lf, h1, -⟩ := h
  exact h1.left_eq
theorem lr_lt {w : World} {b r n : Nat} {A : Key → Bool} {F : Key → Int} {left : Key → Bool} {cnt : Nat} (h : LR w b r n A F left cnt) : r < w.heap.size := by
  obtain ⟨D, lf, h1, -⟩ := h
  exact h1.lt
theorem lr_grown {w w' : World} {b r n : Nat} {A : Key → Bool} {F : Key → Int} {left : Key → Bool} {cnt : Nat} {row : Option Nat} (h : LR w b r n A F left cnt) (hg : w.grownBy w' row) (hb : row ≠ some b) (hr : row ≠ some r) : LR w' b r n A F left cnt := by
  obtain ⟨D, lf, h1, h2, h3⟩ := h
  exact ⟨D, lf, h1.kept hg (Ne.symm hb) (Ne.symm hr), h2, h3⟩
theorem lr_below {w w' : World} {b r n : Nat} {A : Key → Bool} {F : Key → Int} {left : Key → Bool} {cnt : Nat} (h : LR w b r n A F left cnt) (hb : Below w.heap.size w w') : LR w' b r n A F left cnt :=
  lr_grown h (grown_of_below hb none) (by simp) (by simp)
theorem wpList_rangeLM (w : World) {ops : Array Oper} {rest : List Oper} {o : Oper} {a : Act} {Q : Exit → Act → World → Prop} {b n : Nat} {A : Key → Bool} {F : Key → Int} (hg : o.guard = none) (m : Operand) (hop : o.op = Op.range 94 m) (hm : a.eval m = .map (some b)) (h : LM w b n A F)
    (hK : ∀ w' cnt, LR w' b w.heap.size n A F A cnt → Below w.heap.size w w' → w'.heap.size = w.heap.size + 1 → wpList Try.prog ops Q rest (a.put o.dst (.pointer (some ⟨w.heap.size, 0, none⟩))) w') : wpList Try.prog ops Q (o :: rest) a w := by
  obtain ⟨D, hD, hr⟩ := h
  refine wpList_range_own w hg m _ hop _ _ Try.keyLaw Try.underlying94 _ b n D hm hD fun w' h1 h2 h3 => hK w' _ ⟨D, _, h1, hr, fun k hk => (hr k hk).1⟩ (grown_below h2 (fun k hk => by cases hk) (Nat.le_refl _)) h3
theorem wpList_nextLR (w : World) {ops : Array Oper} {rest : List Oper} {o : Oper} {a : Act} {Q : Exit → Act → World → Prop} {b r n : Nat} {A : Key → Bool} {F : Key → Int} {left : Key → Bool} {cnt : Nat} (hg : o.guard = none) (it : Operand) (hop : o.op = Op.next it false)
    (hit : a.eval it = .pointer (some ⟨r, 0, none⟩)) (h : LR w b r n A F left cnt)
    (hDone : (∀ k : Key, k.wf → left k = false) → wpList Try.prog ops Q rest (a.put o.dst (.tuple #[.bool false])) w)
    (hMore : ∀ (k : Key) (w' : World) (cnt' : Nat), k.wf → left k = true → LR w' b r n A F (fun z => left z && !decide (z = k)) cnt' → cnt' < cnt → w.grownBy w' (some r) → w'.heap.size = w.heap.size →
      (Instr.entry (.pointer (some ⟨r, 0, none⟩))).run Try.prog w' = .ok (.tuple #[keyV k, .int .i64 (F k)]) w' → wpList Try.prog ops Q rest (a.put o.dst (.tuple #[.bool true, keyV k, .int .i64 (F k)])) w') : wpList Try.prog ops Q (o :: rest) a w := by
  obtain ⟨D, lf, h1, h2, h3⟩ := h
  refine wpList_next_ranges w hg it hop _ Try.keyLaw _ keyV (Value.int .i64) (fun key l hk => ?_) (fun v y hv => ?_) b r n D lf cnt hit h1 (fun _ hl => hDone fun k hk => by rw [← h3 k hk]; exact hl _) fun x c l y w' cnt' q1 q2 q3 q4 q5 q6 q7 q8 q9 => ?_
  · obtain ⟨k, hk, -⟩ := key_inv hk
    exact ⟨k, hk⟩
  · obtain ⟨c, hc, -⟩ := plainElem_int_inv Try.underlying3 hv
    exact ⟨c, hc⟩
  · obtain ⟨k, hk, hw⟩ := key_inv q1
    obtain rfl := keyV_inj hk
    have hl : l = kl x := by rw [kl_of hw] at q1; exact (Option.some.inj q1).symm
    subst hl
    obtain ⟨c', hc, hy, -⟩ := plainElem_int_inv Try.underlying3 q3
    cases hc
    have hF : F x = c := by
      have e1 := (h2 x hw).2
      rw [q4, hy] at e1
      simp only [DataW.lit.injEq, Lit.int.injEq, true_and] at e1
      exact e1.symm
    subst hF
    refine hMore x w' cnt' hw (by rw [← h3 x hw]; exact q2) ⟨D, _, q5, h2, fun z hz => ?_⟩ q6 q7 q8 q9
    simp only [h3 z hz]
    congr 2
    by_cases e : z = x
    · subst e; rw [decide_eq_true rfl, WideAt.sameKey_self (kl_key hz)]
    · rw [decide_eq_false e, sameKey_ne fun h => e (kl_inj hz hw h)]
end Go.Proofs.Ytjnnoabaepmcnaa
/-
  CountLines, of the model and of the program.
-/
namespace Go.Proofs.Ytjnnoabaepmcnaa
open Go.RowKit

theorem lnum_range {rows cols dx dy y x : Int} (hn : Near dx dy) (r1 : 1 ≤ rows) (r2 : rows ≤ 5) (c1 : 1 ≤ cols) (c2 : cols ≤ 5) (y1 : 0 ≤ y) (y2 : y < rows) (x1 : 0 ≤ x) (x2 : x < cols) :
    0 ≤ lnum dx dy cols y x ∧ lnum dx dy cols y x ≤ 40 ∧ lnum dx dy cols y x ≤ max (lnum dx dy cols (rows - 1) 0) (lnum dx dy cols (rows - 1) (cols - 1)) := by
  obtain ⟨n1, n2, n3, n4⟩ := hn
  have hx : dx = 0 ∨ dx = 1 ∨ dx = 2 ∨ dx = 3 := by omega
  have hy : dy = -3 ∨ dy = -2 ∨ dy = -1 ∨ dy = 0 ∨ dy = 1 ∨ dy = 2 ∨ dy = 3 := by omega
  unfold lnum least
  rcases hx with rfl | rfl | rfl | rfl <;> rcases hy with rfl | rfl | rfl | rfl | rfl | rfl | rfl <;> omega
/-- The greatest number of a line, plus 1. -/
def countL (rows cols dx dy : Int) : Int := 1 + max (lnum dx dy cols (rows - 1) 0) (lnum dx dy cols (rows - 1) (cols - 1))
/-- n is the greatest 1 + number of the cells up to (k, j). -/
def UpTo (dx dy cols k j n : Int) : Prop :=
  (0 ≤ n ∧ n ≤ 41) ∧ (∀ y x, 0 ≤ y → 0 ≤ x → x < cols → (y < k ∨ (y = k ∧ x < j)) → 1 + lnum dx dy cols y x ≤ n) ∧ (n = 0 ∨ ∃ y x, 0 ≤ y ∧ 0 ≤ x ∧ x < cols ∧ (y < k ∨ (y = k ∧ x < j)) ∧ n = 1 + lnum dx dy cols y x)
theorem upTo_zero (dx dy cols : Int) : UpTo dx dy cols 0 0 0 := ⟨by omega, fun y x h1 h2 h3 h4 => by omega, .inl rfl⟩
theorem upTo_step {rows cols dx dy k j n : Int} (hn : Near dx dy) (r1 : 1 ≤ rows) (r2 : rows ≤ 5) (c1 : 1 ≤ cols) (c2 : cols ≤ 5) (y1 : 0 ≤ k) (y2 : k < rows) (x1 : 0 ≤ j) (x2 : j < cols) (h : UpTo dx dy cols k j n) :
    UpTo dx dy cols k (j + 1) (max n (1 + lnum dx dy cols k j)) := by
  obtain ⟨⟨h1, h2⟩, h3, h4⟩ := h
  obtain ⟨l1, l2, -⟩ := lnum_range hn r1 r2 c1 c2 y1 y2 x1 x2
  refine ⟨by omega, fun y x q1 q2 q3 q4 => ?_, ?_⟩
  · by_cases e : y = k ∧ x = j
    · obtain ⟨rfl, rfl⟩ := e; omega
    · have := h3 y x q1 q2 q3 (by omega); omega
  · by_cases e : n ≤ 1 + lnum dx dy cols k j
    · exact .inr ⟨k, j, y1, x1, x2, by omega, by omega⟩
    · rcases h4 with h4 | ⟨y, x, q1, q2, q3, q4, q5⟩
      · omega
      · exact .inr ⟨y, x, q1, q2, q3, by omega, by omega⟩
theorem upTo_row {cols dx dy k n : Int} (_c : 0 < cols) (h : UpTo dx dy cols k cols n) : UpTo dx dy cols (k + 1) 0 n := by
  obtain ⟨h1, h3, h4⟩ := h
  refine ⟨h1, fun y x q1 q2 q3 q4 => h3 y x q1 q2 q3 (by omega), ?_⟩
  rcases h4 with h4 | ⟨y, x, q1, q2, q3, q4, q5⟩
  · exact .inl h4
  · exact .inr ⟨y, x, q1, q2, q3, by omega, q5⟩
theorem upTo_all {rows cols dx dy n : Int} (hn : Near dx dy) (r1 : 1 ≤ rows) (r2 : rows ≤ 5) (c1 : 1 ≤ cols) (c2 : cols ≤ 5) (h : UpTo dx dy cols rows 0 n) : n = countL rows cols dx dy := by
  obtain ⟨⟨h1, h2⟩, h3, h4⟩ := h
  have a := h3 (rows - 1) 0 (by omega) (by omega) (by omega) (by omega)
  have b := h3 (rows - 1) (cols - 1) (by omega) (by omega) (by omega) (by omega)
  obtain ⟨p1, -⟩ := lnum_range hn r1 r2 c1 c2 (show 0 ≤ rows - 1 by omega) (by omega) (show 0 ≤ (0 : Int) by omega) (by omega)
  unfold countL
  rcases h4 with h4 | ⟨y, x, q1, q2, q3, q4, q5⟩
  · omega
  · obtain ⟨-, -, q⟩ := lnum_range hn r1 r2 c1 c2 q1 (by omega) q2 q3
    omega

theorem max_if (a b : Int) : (if a < b then b else a) = max a b := by split <;> omega
theorem exec_max {ρ : Operand → Value} {o : Oper} {w : World} {x y : Operand} {a b : Int} (ho : o.op = .call { callee := .builtin .max, args := #[x, y], argTypes := #[3, 3] }) (ht : o.type = 3) (hx : ρ x = .int .i64 a) (hy : ρ y = .int .i64 b) : (execOp ρ o).run Try.prog w = .ok (.value (.int .i64 (max a b))) w := by
  unfold execOp
  simp only [ho, ht]
  rw [← max_if]
  go_simp
set_option maxHeartbeats 400000 in
theorem implCountLines_no (rows cols dx dy : Int) (w : World) (hs : (sizeOk rows cols && dirOk dx dy) = false) :
    Calls Try.prog 11 #[.int .i64 rows, .int .i64 cols, .agg #[.int .i64 dx, .int .i64 dy]] w fun e w' => e = .returned (.int .i64 (-1)) ∧ Below w.heap.size w w' := by
  have HS := hide hs
  clear hs
  go_enter Try.func11, Try.ntmps11
  go_wp2_with (first | ((with_reducible refine (sizesOk_any rows cols dx dy _).mono ?_); rw [HS.out]; rintro e w1 ⟨rfl, hb⟩; have HG := hide (dirAt_below (heap_alloc_new w _) hb); have HB := hide (((Below.refl _ _).alloc (Nat.le_refl _) _).trans (hb.mono (by simp))); clear hb))
  go_ret
  exact ⟨rfl, HB.out⟩
set_option maxHeartbeats 1000000 in
theorem implCountLines_yes (rows cols dx dy : Int) (w : World) (hs : sizeOk rows cols = true) (hd : dirOk dx dy = true) :
    Calls Try.prog 11 #[.int .i64 rows, .int .i64 cols, .agg #[.int .i64 dx, .int .i64 dy]] w fun e w' => e = .returned (.int .i64 (countL rows cols dx dy)) ∧ Below w.heap.size w w' := by
  obtain ⟨⟨r1, r2⟩, c1, c2⟩ := sizeOk_yes hs
  have HN := hide (near_of hd)
  have HS : Hid ((sizeOk rows cols && dirOk dx dy) = true) := hide (by rw [hs, hd]; rfl)
  clear hs hd
  go_enter Try.func11, Try.ntmps11
  go_wp2_with (first | ((with_reducible refine (sizesOk_any rows cols dx dy _).mono ?_); rw [HS.out]; rintro e w1 ⟨rfl, hb⟩; have HG := hide (dirAt_below (heap_alloc_new w _) hb); have HB := hide (((Below.refl _ _).alloc (Nat.le_refl _) _).trans (hb.mono (by simp))); clear hb))
  obtain ⟨p1, p2, -⟩ := lnum_range HN.out r1 r2 c1 c2 (show 0 ≤ rows - 1 by omega) (by omega) (show 0 ≤ (0 : Int) by omega) (by omega)
  obtain ⟨q1, q2, -⟩ := lnum_range HN.out r1 r2 c1 c2 (show 0 ≤ rows - 1 by omega) (by omega) (show 0 ≤ cols - 1 by omega) (by omega)
  have l1 : IntKind.i64.wrap (rows - 1) = rows - 1 := IntWalk.i64_in _ (by omega)
  have l2 : IntKind.i64.wrap (cols - 1) = cols - 1 := IntWalk.i64_in _ (by omega)
  have l3 : IntKind.i64.wrap (1 + max (lnum dx dy cols (rows - 1) 0) (lnum dx dy cols (rows - 1) (cols - 1))) = 1 + max (lnum dx dy cols (rows - 1) 0) (lnum dx dy cols (rows - 1) (cols - 1)) := IntWalk.i64_in _ (by omega)
  obtain ⟨fs, hfs⟩ : ∃ fs : List FactP, fs = [isV (.int .i64 cols), isV (.agg #[.int .i64 dx, .int .i64 dy]), isV (.int .i64 rows), isV (.int .i64 (rows - 1)), isV (.int .i64 (lnum dx dy cols (rows - 1) 0)), isV (.int .i64 cols), isV (.agg #[.int .i64 dx, .int .i64 dy]), isV (.int .i64 rows), isV (.int .i64 (rows - 1)), isV (.int .i64 cols), isV (.int .i64 (cols - 1)), isV (.int .i64 (lnum dx dy cols (rows - 1) (cols - 1))), isV (.int .i64 (max (lnum dx dy cols (rows - 1) 0) (lnum dx dy cols (rows - 1) (cols - 1)))), isV (.int .i64 (countL rows cols dx dy))] := ⟨_, rfl⟩
  have hst : ∀ f ∈ fs, StableP f := by
    rw [hfs]; intro f hf
    simp only [List.mem_cons, List.not_mem_nil, or_false] at hf
    rcases hf with rfl | rfl | rfl | rfl | rfl | rfl | rfl | rfl | rfl | rfl | rfl | rfl | rfl | rfl <;> exact stable_v _
  subst hfs
  refine wp_region_tail (S := fun w2 => DirAt w2 w.heap.size dx dy ∧ Below w.heap.size w w2) [isV (.int .i64 cols), isV (.agg #[.int .i64 dx, .int .i64 dy]), isV (.int .i64 rows), isV (.int .i64 (rows - 1)), isV (.int .i64 (lnum dx dy cols (rows - 1) 0)), isV (.int .i64 cols), isV (.agg #[.int .i64 dx, .int .i64 dy]), isV (.int .i64 rows), isV (.int .i64 (rows - 1)), isV (.int .i64 cols), isV (.int .i64 (cols - 1)), isV (.int .i64 (lnum dx dy cols (rows - 1) (cols - 1))), isV (.int .i64 (max (lnum dx dy cols (rows - 1) 0) (lnum dx dy cols (rows - 1) (cols - 1)))), isV (.int .i64 (countL rows cols dx dy))] [(0, .int .i64 rows), (1, .int .i64 cols), (5, .pointer (some ⟨w.heap.size, 0, none⟩))] _ _ 14 (by kernel_rfl) rfl rfl (by kernel_rfl) (by kernel_rfl) rfl (by kernel_rfl) ?base ⟨HG.out, below_drew HB.out⟩ ?ob rfl ?fin
  case base =>
    intro t v ht
    simp only [List.lookup_cons, List.lookup_nil] at ht
    repeat' split at ht
    all_goals first | (cases ht; done) | (obtain rfl := Option.some.inj ht; rename_i hh; obtain rfl := eq_of_beq hh; rfl)
  case ob =>
    exact ⟨obt_move (.int .i64 cols) rfl rfl rfl (srt_b 1 rfl),
      obt_one (.agg #[.int .i64 dx, .int .i64 dy]) rfl rfl (srt_b 5 rfl) (fun ρ w2 hS hx => exec_loadDir rfl hx hS.1),
      obt_move (.int .i64 rows) rfl rfl rfl (srt_b 0 rfl),
      obt_two (.int .i64 (rows - 1)) rfl rfl (srt_j 2 rfl (by kernel_rfl) rfl) (srt_c (v := .int .i64 1)) (fun ρ w2 hS hx hy => by go_simp),
      obt_call hst [.int .i64 cols, .agg #[.int .i64 dx, .int .i64 dy], .int .i64 (rows - 1), .int .i64 0] rfl Try.func38 (by kernel_rfl) (by kernel_rfl) rfl ⟨(srt_j 0 rfl (by kernel_rfl) rfl), (srt_j 1 rfl (by kernel_rfl) rfl), (srt_j 3 rfl (by kernel_rfl) rfl), srt_c, trivial⟩ (fun w2 hS => (lineNumber_any dx dy cols (rows - 1) 0 w2 HN.out ⟨c1, c2⟩ ⟨by omega, by omega⟩ ⟨by omega, by omega⟩).mono fun e w3 hh => ⟨_, hh.1, ⟨dirAt_below hS.1 hh.2, hS.2.trans (hh.2.mono hS.2.size)⟩, hh.2, rfl⟩),
      obt_move (.int .i64 cols) rfl rfl rfl (srt_b 1 rfl),
      obt_one (.agg #[.int .i64 dx, .int .i64 dy]) rfl rfl (srt_b 5 rfl) (fun ρ w2 hS hx => exec_loadDir rfl hx hS.1),
      obt_move (.int .i64 rows) rfl rfl rfl (srt_b 0 rfl),
      obt_two (.int .i64 (rows - 1)) rfl rfl (srt_j 7 rfl (by kernel_rfl) rfl) (srt_c (v := .int .i64 1)) (fun ρ w2 hS hx hy => by go_simp),
      obt_move (.int .i64 cols) rfl rfl rfl (srt_b 1 rfl),
      obt_two (.int .i64 (cols - 1)) rfl rfl (srt_j 9 rfl (by kernel_rfl) rfl) (srt_c (v := .int .i64 1)) (fun ρ w2 hS hx hy => by go_simp),
      obt_call hst [.int .i64 cols, .agg #[.int .i64 dx, .int .i64 dy], .int .i64 (rows - 1), .int .i64 (cols - 1)] rfl Try.func38 (by kernel_rfl) (by kernel_rfl) rfl ⟨(srt_j 5 rfl (by kernel_rfl) rfl), (srt_j 6 rfl (by kernel_rfl) rfl), (srt_j 8 rfl (by kernel_rfl) rfl), (srt_j 10 rfl (by kernel_rfl) rfl), trivial⟩ (fun w2 hS => (lineNumber_any dx dy cols (rows - 1) (cols - 1) w2 HN.out ⟨c1, c2⟩ ⟨by omega, by omega⟩ ⟨by omega, by omega⟩).mono fun e w3 hh => ⟨_, hh.1, ⟨dirAt_below hS.1 hh.2, hS.2.trans (hh.2.mono hS.2.size)⟩, hh.2, rfl⟩),
      obt_two (.int .i64 (max (lnum dx dy cols (rows - 1) 0) (lnum dx dy cols (rows - 1) (cols - 1)))) rfl rfl (srt_j 4 rfl (by kernel_rfl) rfl) (srt_j 11 rfl (by kernel_rfl) rfl) (fun ρ w2 hS hx hy => exec_max rfl rfl hx hy),
      obt_two (.int .i64 (countL rows cols dx dy)) rfl rfl (srt_c (v := .int .i64 1)) (srt_j 12 rfl (by kernel_rfl) rfl) (fun ρ w2 hS hx hy => by rw [countL]; go_simp),
      trivial⟩
  case fin =>
    intro a' w' h1 h2 h3 hS h4 K hK
    have hv : a'.eval (.tmp 25) = .int .i64 (countL rows cols dx dy) := h4 13 25 rfl (by decide)
    refine tail_assign rfl hv ?_ K hK
    go_wp2
    exact bodyPost_ret (results_tmp rfl _ _ _) rfl ⟨congrArg Ending.returned (set_get (n := 26) h1 (by decide)), hS.2⟩
theorem implCountLines_any (rows cols dx dy : Int) (w : World) :
    Calls Try.prog 11 #[.int .i64 rows, .int .i64 cols, .agg #[.int .i64 dx, .int .i64 dy]] w fun e w' => e = .returned (.int .i64 (if (sizeOk rows cols && dirOk dx dy) = true then countL rows cols dx dy else -1)) ∧ Below w.heap.size w w' := by
  cases hs : (sizeOk rows cols && dirOk dx dy) with
  | false => exact implCountLines_no rows cols dx dy w hs
  | true =>
    rw [Bool.and_eq_true] at hs
    exact implCountLines_yes rows cols dx dy w hs.1 hs.2
end Go.Proofs.Ytjnnoabaepmcnaa
/-
  'm[k] += ..' in a region that draws its order: its operations.
-/
namespace Go.Proofs.Ytjnnoabaepmcnaa
open Go.RowKit Go.Maps
open Go.ChangeMaps (setBlock)
set_option maxRecDepth 100000

/-- A slot's value, and what block b holds. -/
def isB (v : Value) (b : Nat) (E : Obj) : FactP := fun u w => u = v ∧ w.heap[b]? = some E
theorem stable_b (v : Value) (b : Nat) (E : Obj) : StableP (isB v b E) := fun _ _ _ hb h => ⟨h.1, (hb.block b (Array.getElem?_eq_some_iff.1 h.2).1).trans h.2⟩
/-- A fact that outlives the making of the entry. -/
def OutP (b : Nat) (E : Obj) (f : FactP) : Prop := ∀ (u : Value) (w : World) (E' : Obj), w.heap[b]? = some E' → f u w → f u (setBlock w b E)
theorem out_v (v : Value) (b : Nat) (E : Obj) : OutP b E (isV v) := fun _ _ _ _ h => h
theorem out_b (v : Value) (b : Nat) (E : Obj) : OutP b E (isB v b E) := fun _ _ _ he h => ⟨h.1, sb_same he⟩
theorem out_all {fs : List FactP} {b : Nat} {E : Obj} (h : ∀ f ∈ fs, OutP b E f) (j : Nat) : OutP b E (factP fs j) := by
  unfold factP
  rw [List.getD_eq_getElem?_getD]
  cases hj : fs[j]? with
  | none => exact out_v _ _ _
  | some f => exact h f (List.mem_of_getElem? hj)
theorem ent_below {w w' : World} {b : Nat} {E0 E1 : Obj} (h : w.heap[b]? = some E0 ∨ w.heap[b]? = some E1) (hb : Below w.heap.size w w') : w'.heap[b]? = some E0 ∨ w'.heap[b]? = some E1 :=
  h.imp (fun e => (hb.block b (Array.getElem?_eq_some_iff.1 e).1).trans e) (fun e => (hb.block b (Array.getElem?_eq_some_iff.1 e).1).trans e)

theorem exec_lookupK {ρ : Operand → Value} {o : Oper} {w : World} {m x : Operand} {b : Nat} {k : Key} {c : Int} (ho : o.op = .lookup 94 m x false) (hm : ρ m = .map (some b)) (hx : ρ x = keyV k)
    (hrun : (Instr.lookup 94 (.map (some b)) (keyV k) false).run Try.prog w = .ok (.int .i64 c) w) : (execOp ρ o).run Try.prog w = .ok (.value (.int .i64 c)) w := by
  unfold execOp
  simp only [ho, hm, hx]
  simp [hrun, Result.andThen]
section
variable {Q : Exit → Act → World → Prop} {base : List (Tmp × Value)} {dsts : List (Option Tmp)} {S : World → Prop} {fs : List FactP} {i : Nat} {o : Oper}
theorem obt_entry {m x : Operand} {b n st : Nat} {k : Key} {A : Key → Bool} {F : Key → Int} {E0 E1 : Obj} (hE : Ent b n k A F E0 E1 st) (ho : o.op = .mapEntry 94 m x) (hf : factP fs i = isB (.tuple #[.int .i64 (F k), .int .i64 st]) b E1) (hg : o.guard = none)
    (hm : SrcT base dsts fs o m (.map (some b))) (hx : SrcT base dsts fs o x (keyV k)) (hout : ∀ f ∈ fs, OutP b E1 f) (hS0 : ∀ w, S w → w.heap[b]? = some E0 ∨ w.heap[b]? = some E1) (hS1 : ∀ w, S w → S (setBlock w b E1)) : Obt Try.prog Q base dsts S fs i o :=
  fun a w hS hB hD K hK => by
    have hh := hS0 w hS
    obtain ⟨E', he'⟩ : ∃ E', w.heap[b]? = some E' := hh.elim (fun e => ⟨_, e⟩) (fun e => ⟨_, e⟩)
    refine ⟨.inl hg, run_value (.tuple #[.int .i64 (F k), .int .i64 st]) (w' := setBlock w b E1) ?_ (hK _ _ (hS1 w hS) (fun j u h => out_all hout j u w E' he' h) (by rw [hf]; exact ⟨rfl, sb_same he'⟩))⟩
    unfold execOp
    simp only [ho, srt_val hm hB hD, srt_val hx hB hD]
    simp [hE.entry w hh, Result.andThen]
/-- The stamp out of the entry. -/
theorem obt_stamp {d : Tmp} {b : Nat} {E : Obj} {u v : Value} (j : Nat) (ho : o.op = .extract (.tmp d) 1) (hf : factP fs i = isV v) (hg : o.guard = none) (h1 : dsts[j]? = some (some d)) (h2 : depT o j = true) (h3 : factP fs j = isB (.tuple #[u, v]) b E) : Obt Try.prog Q base dsts S fs i o :=
  fun a w hS hB hD K hK => by
    have hv : a.eval (.tmp d) = .tuple #[u, v] := by
      have := hD j d h1 h2
      rw [h3] at this; exact this.1
    refine ⟨.inl hg, run_value v ?_ (hK _ _ hS (fun j u h => h) (by rw [hf]; rfl))⟩
    unfold execOp
    simp only [ho, hv]
    go_simp
end
theorem exec_keyV {ρ : Operand → Value} {o : Oper} {w : World} {x y : Operand} {dx dy n : Int} (ho : o.op = .build 110 #[(0, x), (1, y)]) (hx : ρ x = .agg #[.int .i64 dx, .int .i64 dy]) (hy : ρ y = .int .i64 n) :
    (execOp ρ o).run Try.prog w = .ok (.value (keyV ⟨dx, dy, n⟩)) w := by
  unfold execOp keyV
  simp only [ho]
  go_simp
end Go.Proofs.Ytjnnoabaepmcnaa
/-
  What a call answers: a list of lists of its own, alone or with a bool.
-/
namespace Go.Proofs.Ytjnnoabaepmcnaa
open Go.RowKit

/-- The call answers a list of lists of its own. -/
def MatRes (rows : List (List Int)) (w : World) (e : Ending) (w' : World) : Prop := ∃ v, e = .returned v ∧ OwnMat w' w.heap.size w'.heap.size v rows ∧ Below w.heap.size w w'
theorem matRes_nil {w w' : World} (h : Below w.heap.size w w') : MatRes [] w (.returned (.slice none 0 0)) w' := ⟨_, rfl, ownMat_nil _ _ _, h⟩
/-- The call answers a list of lists of its own, and a bool. -/
def MatRes2 (rows : List (List Int)) (b : Bool) (w : World) (e : Ending) (w' : World) : Prop := ∃ v, e = .returned (.tuple #[v, .bool b]) ∧ OwnMat w' w.heap.size w'.heap.size v rows ∧ Below w.heap.size w w'
theorem matRes2_nil {w w' : World} (h : Below w.heap.size w w') : MatRes2 [] false w (.returned (.tuple #[.slice none 0 0, .bool false])) w' := ⟨_, rfl, ownMat_nil _ _ _, h⟩
theorem ownMat_some {w : World} {lo hi : Nat} {v : Value} {m : List (List Int)} (h : OwnMat w lo hi v m) (h0 : 0 < m.length) : ∃ g c, v = .slice (some ⟨g, 0, none⟩) m.length c := by
  obtain ⟨vs, hv, -⟩ := h
  obtain ⟨g, c, rfl, -⟩ := own_some hv h0
  exact ⟨g, c, rfl⟩
end Go.Proofs.Ytjnnoabaepmcnaa
/-
  Images by their cells: plain lists, what reads them and what owns them.
-/
namespace Go.Proofs.Ytjnnoabaepmcnaa
open Go.RowKit

def rowF (C : Nat) (f : Nat → Int) : List Int := (List.range C).map f
/-- The list of R rows of C cells. -/
def mkM (R C : Nat) (f : Nat → Nat → Int) : List (List Int) := (List.range R).map fun y => rowF C (f y)
theorem rowF_len (C : Nat) (f : Nat → Int) : (rowF C f).length = C := by simp [rowF]
theorem rowF_at (C : Nat) (f : Nat → Int) (x : Nat) (h : x < (rowF C f).length) : (rowF C f)[x] = f x := by simp [rowF]
theorem mkM_len (R C : Nat) (f : Nat → Nat → Int) : (mkM R C f).length = R := by simp [mkM]
theorem mkM_at (R C : Nat) (f : Nat → Nat → Int) (y : Nat) (h : y < (mkM R C f).length) : (mkM R C f)[y] = rowF C (f y) := by simp [mkM]
theorem rowF_congr {C : Nat} {f g : Nat → Int} (h : ∀ x, x < C → f x = g x) : rowF C f = rowF C g := List.map_congr_left fun x hx => h x (List.mem_range.1 hx)
theorem mkM_congr {R C : Nat} {f g : Nat → Nat → Int} (h : ∀ y x, y < R → x < C → f y x = g y x) : mkM R C f = mkM R C g :=
  List.map_congr_left fun y hy => rowF_congr fun x hx => h y x (List.mem_range.1 hy) hx
theorem mkM_succ (R C : Nat) (f : Nat → Nat → Int) : mkM (R + 1) C f = mkM R C f ++ [rowF C (f R)] := by simp [mkM, List.range_succ]
theorem rowF_set (C : Nat) (f : Nat → Int) (x : Nat) (v : Int) : (rowF C f).set x v = rowF C fun j => if j = x then v else f j := by
  apply List.ext_getElem
  · simp [rowF]
  · intro j h1 h2
    rw [List.getElem_set]
    by_cases e : x = j
    · subst e; simp [rowF]
    · simp [rowF, e, Ne.symm e]
theorem mkM_set (R C : Nat) (f : Nat → Nat → Int) (y x : Nat) (v : Int) : (mkM R C f).set y (rowF C fun j => if j = x then v else f y j) = mkM R C fun a b => if a = y ∧ b = x then v else f a b := by
  apply List.ext_getElem
  · simp [mkM]
  · intro j h1 h2
    rw [List.getElem_set]
    by_cases e : y = j
    · subst e; simp [mkM]
    · simp [mkM, e, Ne.symm e]
theorem cells_mkM (R C : Nat) (f : Nat → Nat → Int) : cellsM (mkM R C f) = R * C := by
  induction R with
  | zero => simp [mkM, cellsM]
  | succ R ih =>
    rw [mkM_succ]
    simp only [cellsM, List.map_append, List.sum_append, List.map_cons, List.map_nil, List.sum_cons, List.sum_nil, rowF_len] at ih ⊢
    rw [ih, Nat.succ_mul]; omega

/-- The cells of a valid image. -/
structure Img (R C : Nat) (f : Nat → Nat → Int) : Prop where
  r1 : 1 ≤ R
  r2 : R ≤ 5
  c1 : 1 ≤ C
  c2 : C ≤ 5
  cell : ∀ y x, y < R → x < C → f y x = 0 ∨ f y x = 1
theorem ok_img {m : List (List Int)} (h : okB m = true) : ∃ R C f, m = mkM R C f ∧ Img R C f := by
  simp only [okB, Bool.and_eq_true, decide_eq_true_eq, List.all_eq_true] at h
  obtain ⟨⟨⟨h1, h2⟩, h3, h4⟩, h5⟩ := h
  have hrow : ∀ y, (hy : y < m.length) → m[y].length = widthM m ∧ ∀ x, (hx : x < m[y].length) → m[y][x] = 0 ∨ m[y][x] = 1 := fun y hy => by
    have := h5 _ (List.getElem_mem hy)
    simp only [rowOk, Bool.and_eq_true, beq_iff_eq, List.all_eq_true] at this
    refine ⟨this.1, fun x hx => ?_⟩
    have := this.2 _ (List.getElem_mem hx)
    simpa [cellOk] using this
  refine ⟨m.length, widthM m, fun y x => (m.getD y []).getD x 0, ?_, h1, h2, h3, h4, fun y x hy hx => ?_⟩
  · apply List.ext_getElem
    · simp [mkM]
    · intro y hy1 hy2
      rw [mkM_at]
      apply List.ext_getElem
      · rw [rowF_len, (hrow y hy1).1]
      · intro x hx1 hx2
        rw [rowF_at, List.getD_eq_getElem?_getD, List.getD_eq_getElem?_getD, List.getElem?_eq_getElem hy1, Option.getD_some, List.getElem?_eq_getElem hx1]; rfl
  · have hx' : x < m[y].length := by rw [(hrow y hy).1]; exact hx
    have := (hrow y hy).2 x hx'
    simpa [List.getD_eq_getElem?_getD, List.getElem?_eq_getElem hy, List.getElem?_eq_getElem hx'] using this
theorem width_mkM {R C : Nat} {f : Nat → Nat → Int} (h : 0 < R) : widthM (mkM R C f) = C := by
  rw [width_at _ (by rw [mkM_len]; exact h), mkM_at, rowF_len]
theorem img_ok {R C : Nat} {f : Nat → Nat → Int} (h : Img R C f) : okB (mkM R C f) = true := by
  have hw := width_mkM (C := C) (f := f) (show 0 < R by have := h.r1; omega)
  refine okB_yes (by rw [mkM_len]; exact ⟨h.r1, h.r2⟩) (by rw [hw]; exact ⟨h.c1, h.c2⟩) fun k hk => ?_
  rw [hw, mkM_at]
  have hk' : k < R := by rw [mkM_len] at hk; exact hk
  refine rowOk_yes (rowF_len _ _) fun j hj => ?_
  rw [rowF_len] at hj
  rw [rowF_at]
  rcases h.cell k j hk' hj with e | e <;> rw [e] <;> rfl

/-- An image that is read: its rows' slices and its cells. -/
theorem inMat_img {w : World} {v : Value} {R C : Nat} {f : Nat → Nat → Int} (h : InMat w v (mkM R C f)) (hR : 0 < R) (hC : 0 < C) :
    ∃ g o c, v = .slice (some ⟨g, o, none⟩) R c ∧ g < w.heap.size ∧ ∀ y, y < R → ∃ g' o' c', w.cell? ⟨g, o + y, none⟩ = some (.slice (some ⟨g', o', none⟩) C c') ∧ g' < w.heap.size ∧ ∀ x, x < C → w.cell? ⟨g', o' + x, none⟩ = some (.int .i64 (f y x)) := by
  obtain ⟨a, c, rfl, -, hp⟩ := h
  obtain ⟨g, o, rfl, hg, hc⟩ := hp.resolve_left (by rw [mkM_len]; omega)
  refine ⟨g, o, c, by rw [mkM_len], hg, fun y hy => ?_⟩
  obtain ⟨u, hu, hr⟩ := hc y (by rw [mkM_len]; exact hy)
  rw [mkM_at] at hr
  obtain ⟨a', c', rfl, -, hp'⟩ := hr
  obtain ⟨g', o', rfl, hg', hc'⟩ := hp'.resolve_left (by rw [rowF_len]; omega)
  rw [rowF_len] at hu
  refine ⟨g', o', c', hu, hg', fun x hx => ?_⟩
  rw [hc' x (by rw [rowF_len]; exact hx), rowF_at]

/-- A cell of an image that the call owns: where it lies, and the image with another number in it. -/
theorem ownMat_cell {w : World} {lo hi g n c R C : Nat} {f : Nat → Nat → Int} (h : OwnMat w lo hi (.slice (some ⟨g, 0, none⟩) n c) (mkM R C f)) (y x : Nat) (hy : y < R) (hx : x < C) :
    ∃ g' c', w.cell? ⟨g, y, none⟩ = some (.slice (some ⟨g', 0, none⟩) C c') ∧ w.cell? ⟨g', x, none⟩ = some (.int .i64 (f y x)) ∧ w.frozen? ⟨g', x, none⟩ = false ∧ lo ≤ g' ∧ g' < hi ∧
      ∀ z : Int, OwnMat (w.setCell ⟨g', x, none⟩ (.int .i64 z)) lo hi (.slice (some ⟨g, 0, none⟩) n c) (mkM R C fun a b => if a = y ∧ b = x then z else f a b) := by
  obtain ⟨u, hu, -, hr, hh, hset⟩ := ownMat_row h y (by rw [mkM_len]; exact hy)
  rw [mkM_at, rowF_len] at hr hset
  obtain ⟨g', c', rfl, hlo, -, -, -, hc, hf⟩ := own_some hr (by omega)
  refine ⟨g', c', hu, ?_, hf x, hlo, hh _ rfl, fun z => ?_⟩
  · rw [hc x hx, ints_at _ x (by rw [rowF_len]; exact hx), rowF_at]
  · obtain ⟨h1, h2⟩ := hr.stored x (.int .i64 z)
    rw [ints_set, rowF_set] at h1
    have := hset _ _ h1 (rowF_len _ _) h2
    rw [mkM_set] at this; exact this

/-- The image as rows of five numbers, -1 where it has no cell. -/
def imgF (R C : Nat) (f : Nat → Nat → Int) (i : Nat) : Int := if i / 5 < R ∧ i % 5 < C then f (i / 5) (i % 5) else -1
theorem imgF_at (R C : Nat) (f : Nat → Nat → Int) (y x : Nat) (h : x < 5) : imgF R C f (5 * y + x) = if y < R ∧ x < C then f y x else -1 := by
  rw [imgF, show (5 * y + x) / 5 = y by omega, show (5 * y + x) % 5 = x by omega]
theorem imgF_range {R C : Nat} {f : Nat → Nat → Int} (h : Img R C f) (i : Nat) : imgF R C f i = -1 ∨ imgF R C f i = 0 ∨ imgF R C f i = 1 := by
  unfold imgF
  split
  · rename_i hh; rcases h.cell _ _ hh.1 hh.2 with e | e <;> simp [e]
  · exact .inl rfl

/-- How many of the first k numbers have p. -/
def cnt (p : Nat → Bool) : Nat → Nat
  | 0 => 0
  | k + 1 => cnt p k + if p k then 1 else 0
theorem cnt_yes {p : Nat → Bool} {k : Nat} (h : p k = true) : cnt p (k + 1) = cnt p k + 1 := by rw [cnt, if_pos h]
theorem cnt_no {p : Nat → Bool} {k : Nat} (h : p k = false) : cnt p (k + 1) = cnt p k := by rw [cnt, if_neg (by simp [h])]; rfl
theorem cnt_skip {p : Nat → Bool} {k l : Nat} (hkl : k ≤ l) (h : ∀ i, k ≤ i → i < l → p i = false) : cnt p l = cnt p k := by
  induction l with
  | zero => obtain rfl : k = 0 := by omega
            rfl
  | succ l ih =>
    by_cases e : k = l + 1
    · rw [e]
    · rw [cnt_no (h l (by omega) (by omega)), ih (by omega) fun i h1 h2 => h i h1 (by omega)]
theorem cnt_le (p : Nat → Bool) (k : Nat) : cnt p k ≤ k := by
  induction k with
  | zero => exact Nat.le_refl _
  | succ k ih => rw [cnt]; split <;> omega
def zeroM (_y _x : Nat) : Int := 0
end Go.Proofs.Ytjnnoabaepmcnaa
/-
  The frame behind a region that draws its order: the slots that the region writes, over the frame from before.
-/
namespace Go.Proofs.Ytjnnoabaepmcnaa
open Go.RowKit

def ov (ks : List (Nat × Value)) : Nat → List Value → List Value
  | _, [] => []
  | i, x :: r => (match ks.lookup i with | some v => v | none => x) :: ov ks (i + 1) r
def KV (a' : Act) : List (Nat × Value) → Prop
  | [] => True
  | p :: r => a'.tmps.getD p.1 undef = p.2 ∧ KV a' r
theorem kv_lookup {a' : Act} : ∀ {ks : List (Nat × Value)}, KV a' ks → ∀ {i : Nat} {v : Value}, ks.lookup i = some v → a'.tmps.getD i undef = v
  | [], _, i, v, h => by simp at h
  | p :: r, hk, i, v, h => by
    rw [List.lookup_cons] at h
    by_cases e : i == p.1
    · rw [e] at h
      have e' := eq_of_beq e
      simp only [Option.some.injEq] at h
      subst h; subst e'
      exact hk.1
    · have e' : (i == p.1) = false := by simpa using e
      rw [e'] at h
      exact kv_lookup hk.2 h
theorem frameAt_ov {ops : Array Oper} {a a' : Act} {ks : List (Nat × Value)} (h3 : ∀ t, outside ops t = true → a'.tmps.getD t undef = a.tmps.getD t undef) (hv : KV a' ks) : ∀ (xs : List Value) (i : Nat),
    (∀ j, j < xs.length → outside ops (i + j) = true ∨ (ks.lookup (i + j)).isSome = true) → (∀ j, (h : j < xs.length) → a.tmps.getD (i + j) undef = xs[j]) → frameAt a' i (ov ks i xs)
  | [], _, _, _ => trivial
  | x :: r, i, ho, hx => by
    refine ⟨?_, ?_⟩
    · cases hl : ks.lookup i with
      | some v => exact kv_lookup hv hl
      | none =>
        rcases ho 0 (by simp) with h | h
        · rw [Nat.add_zero] at h
          rw [h3 i h]
          exact hx 0 (by simp)
        · rw [Nat.add_zero, hl] at h; cases h
    · refine frameAt_ov h3 hv r (i + 1) (fun j hj => ?_) (fun j hj => ?_)
      · have := ho (j + 1) (by simpa using hj)
        rwa [show i + (j + 1) = i + 1 + j by omega] at this
      · have := hx (j + 1) (by simpa using hj)
        rw [show i + (j + 1) = i + 1 + j by omega] at this
        simpa using this
theorem ov_len (ks : List (Nat × Value)) : ∀ (xs : List Value) (i : Nat), (ov ks i xs).length = xs.length
  | [], _ => rfl
  | _ :: r, i => by simp [ov, ov_len ks r]
theorem frame_ov {ops : Array Oper} {a a' : Act} {xs : List Value} {ds : List Deferred} (ha : a = ⟨xs.toArray, ds⟩) (h1 : a'.tmps.size = a.tmps.size) (h2 : a'.defers = a.defers) (h3 : ∀ t, outside ops t = true → a'.tmps.getD t undef = a.tmps.getD t undef)
    (ks : List (Nat × Value)) (hk : ((List.range xs.length).all fun t => outside ops t || (ks.map (·.1)).contains t) = true) (hv : KV a' ks) : a' = ⟨(ov ks 0 xs).toArray, ds⟩ := by
  subst ha
  refine frame_eq _ (by rw [h1, ov_len]; simp) h2 (frameAt_ov h3 hv xs 0 (fun j hj => ?_) fun j hj => ?_)
  · rw [Nat.zero_add]
    have := List.all_eq_true.1 hk j (List.mem_range.2 hj)
    rw [Bool.or_eq_true] at this
    rcases this with h | h
    · exact .inl h
    · right
      clear hk h1 h2 h3 hv
      induction ks with
      | nil => simp at h
      | cons p r ih =>
        rw [List.lookup_cons]
        by_cases e : j == p.1
        · rw [e]; rfl
        · have e' : (j == p.1) = false := by simpa using e
          rw [e']
          refine ih ?_
          simp only [List.map_cons, List.contains_cons, e', Bool.false_or] at h
          exact h
  · simp [hj]
theorem obt_assign {P : Program} {Q : Exit → Act → World → Prop} {base : List (Tmp × Value)} {dsts : List (Option Tmp)} {S : World → Prop} {fs : List FactP} {i : Nat} {o : Oper} {x : Operand} (v : Value) (ho : o.op = .assign x) (hf : factP fs i = isV v) (hg : o.guard = none) (hx : SrcT base dsts fs o x v) : Obt P Q base dsts S fs i o :=
  obt_run v hf hg fun a w _ hs => by unfold execOp; rw [ho]; simp only [hs x v hx]; rfl
/-- An operation whose one operand is what a forerunner has left, told by a fact. -/
theorem obt_from {P : Program} {Q : Exit → Act → World → Prop} {base : List (Tmp × Value)} {dsts : List (Option Tmp)} {S : World → Prop} {fs : List FactP} {i : Nat} {o : Oper} {d : Tmp} (j : Nat) (hg : o.guard = none) (h1 : dsts[j]? = some (some d)) (h2 : depT o j = true)
    (hr : ∀ (ρ : Operand → Value) (w : World) (u : Value), S w → ρ (.tmp d) = u → factP fs j u w → ∃ v, (execOp ρ o).run P w = .ok (.value v) w ∧ factP fs i v w) : Obt P Q base dsts S fs i o :=
  fun a w hS _ hD K hK => by
    obtain ⟨v, hv1, hv2⟩ := hr a.eval w _ hS rfl (hD j d h1 h2)
    exact ⟨.inl hg, run_value v hv1 (hK _ _ hS (fun _ _ h => h) hv2)⟩
theorem exec_moveV {P : Program} {ρ : Operand → Value} {o : Oper} {w : World} {x : Operand} {u : Value} (ho : o.op = .move x) (hx : ρ x = u) : (execOp ρ o).run P w = .ok (.value u) w := by
  unfold execOp; rw [ho]; simp only [hx]; rfl
theorem exec_assignV {P : Program} {ρ : Operand → Value} {o : Oper} {w : World} {x : Operand} {u : Value} (ho : o.op = .assign x) (hx : ρ x = u) : (execOp ρ o).run P w = .ok (.value u) w := by
  unfold execOp; rw [ho]; simp only [hx]; rfl
theorem exec_extract0 {P : Program} {ρ : Operand → Value} {o : Oper} {w : World} {x : Operand} {u v : Value} (ho : o.op = .extract x 0) (hx : ρ x = .tuple #[u, v]) : (execOp ρ o).run P w = .ok (.value u) w := by
  unfold execOp
  simp only [ho, hx]
  go_simp
theorem exec_extract1 {P : Program} {ρ : Operand → Value} {o : Oper} {w : World} {x : Operand} {u v : Value} (ho : o.op = .extract x 1) (hx : ρ x = .tuple #[u, v]) : (execOp ρ o).run P w = .ok (.value v) w := by
  unfold execOp
  simp only [ho, hx]
  go_simp
end Go.Proofs.Ytjnnoabaepmcnaa
