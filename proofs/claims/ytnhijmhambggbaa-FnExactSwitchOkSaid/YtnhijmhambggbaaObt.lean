/-
  The operations of such a region, kind by kind.
-/
import Derived.Test.YtnhijmhambggbaaTail
namespace Go.Proofs.Ytnhijmhambggbaa
open Go.RowKit

/-- What an operand reads as: a slot from before, a slot of a forerunner, a constant. -/
def SrcT (base : List (Tmp × Value)) (dsts : List (Option Tmp)) (fs : List FactP) (o : Oper) (x : Operand) (v : Value) : Prop :=
  (∃ t, x = .tmp t ∧ base.lookup t = some v) ∨ (∃ j d, x = .tmp d ∧ dsts[j]? = some (some d) ∧ depT o j = true ∧ factP fs j = isV v) ∨ x = .const v
theorem srt_b {base : List (Tmp × Value)} {dsts : List (Option Tmp)} {fs : List FactP} {o : Oper} {v : Value} (t : Tmp) (h : base.lookup t = some v) : SrcT base dsts fs o (.tmp t) v := .inl ⟨t, rfl, h⟩
theorem srt_j {base : List (Tmp × Value)} {dsts : List (Option Tmp)} {fs : List FactP} {o : Oper} {v : Value} {d : Tmp} (j : Nat) (h1 : dsts[j]? = some (some d)) (h2 : depT o j = true) (h3 : factP fs j = isV v) : SrcT base dsts fs o (.tmp d) v := .inr (.inl ⟨j, d, rfl, h1, h2, h3⟩)
theorem srt_c {base : List (Tmp × Value)} {dsts : List (Option Tmp)} {fs : List FactP} {o : Oper} {v : Value} : SrcT base dsts fs o (.const v) v := .inr (.inr rfl)
def SrcsT (base : List (Tmp × Value)) (dsts : List (Option Tmp)) (fs : List FactP) (o : Oper) : List Operand → List Value → Prop
  | [], [] => True
  | x :: l, v :: r => SrcT base dsts fs o x v ∧ SrcsT base dsts fs o l r
  | _, _ => False
/-- A slot whose fact is no bare value. -/
def SlotT (dsts : List (Option Tmp)) (o : Oper) (j : Nat) (d : Tmp) : Prop := dsts[j]? = some (some d) ∧ depT o j = true

/-- A fact that stands while nothing that was there turns. -/
def StableP (f : FactP) : Prop := ∀ u w w', Below w.heap.size w w' → f u w → f u w'
theorem stable_v (v : Value) : StableP (isV v) := fun _ _ _ _ h => h
theorem stable_all {fs : List FactP} (h : ∀ f ∈ fs, StableP f) (j : Nat) : StableP (factP fs j) := by
  unfold factP
  rw [List.getD_eq_getElem?_getD]
  cases hj : fs[j]? with
  | none => exact stable_v _
  | some f => exact h f (List.mem_of_getElem? hj)

theorem run_value {P : Program} {Q : Exit → Act → World → Prop} {o : Oper} {a : Act} {w w' : World} {K : Act → World → Prop} (v : Value) (hr : (execOp a.eval o).run P w = .ok (.value v) w') (h : K (a.put o.dst v) w') : o.wp P a w K Q := by
  unfold Oper.wp; rw [hr]; exact h
theorem run_skip {P : Program} {Q : Exit → Act → World → Prop} {o : Oper} {a : Act} {w w' : World} {K : Act → World → Prop} (hr : (execOp a.eval o).run P w = .ok .skip w') (h : K (a.put o.dst undef) w') : o.wp P a w K Q := by
  unfold Oper.wp; rw [hr]; exact h
theorem run_call {P : Program} {Q : Exit → Act → World → Prop} {o : Oper} {a : Act} {w : World} {K : Act → World → Prop} {f : FuncId} {xs : Array Operand} {ts : Array TypeId} (ho : o.op = .call { callee := .value (.func f), args := xs, argTypes := ts })
    {fn : Func} (hfn : P.funcs[f]? = some fn) (hn : (fn.name == "runtime.NumGoroutine") = false) (hb : fn.body.isSome = true) (args : Array Value) (hx : xs.map a.eval = args) (h : Calls P f args w fun e w' => ∃ v, e = .returned v ∧ K (a.put o.dst v) w') : o.wp P a w K Q := by
  subst hx
  unfold Oper.wp
  have hf : a.eval (.func f) = .func (.func f) #[] #[] := rfl
  simp only [execOp, ho, resolve, hf, Deferred.ofValue]
  have hn' : ¬ fn.name = "runtime.NumGoroutine" := by simpa using hn
  have hb' : ¬ fn.body = none := by intro e; rw [e] at hb; cases hb
  simp [invoke, callFunc, Oper.upon, hfn, hn', hb', Result.andThen]
  refine Calls.mono h ?_
  rintro e w' ⟨v, rfl, hk⟩
  exact hk

section
variable {P : Program} {Q : Exit → Act → World → Prop} {base : List (Tmp × Value)} {dsts : List (Option Tmp)} {S : World → Prop} {fs : List FactP} {i : Nat} {o : Oper}
theorem srt_val {a : Act} {w : World} {x : Operand} {v : Value} (h : SrcT base dsts fs o x v) (hb : ∀ t v, base.lookup t = some v → a.tmps.getD t undef = v)
    (hd : ∀ j d, dsts[j]? = some (some d) → depT o j = true → factP fs j (a.tmps.getD d undef) w) : a.eval x = v := by
  rcases h with ⟨t, rfl, h⟩ | ⟨j, d, rfl, h1, h2, h3⟩ | rfl
  · exact hb t v h
  · have := hd j d h1 h2
    rw [h3] at this; exact this
  · rfl
theorem srts_val {a : Act} {w : World} (hB : ∀ t v, base.lookup t = some v → a.tmps.getD t undef = v) (hD : ∀ j d, dsts[j]? = some (some d) → depT o j = true → factP fs j (a.tmps.getD d undef) w) : ∀ (l : List Operand) (r : List Value), SrcsT base dsts fs o l r → l.map a.eval = r := fun l => by
  induction l with
  | nil => intro r h; cases r with
    | nil => rfl
    | cons v r => exact h.elim
  | cons x l ih => intro r h; cases r with
    | nil => exact h.elim
    | cons v r => rw [List.map_cons, srt_val h.1 hB hD, ih r h.2]

/-- An operation that yields v of what its operands read as, in whatever world meets S. -/
theorem obt_run (v : Value) (hf : factP fs i = isV v) (hg : o.guard = none) (hr : ∀ (ρ : Operand → Value) (w : World), S w → (∀ x u, SrcT base dsts fs o x u → ρ x = u) → (execOp ρ o).run P w = .ok (.value v) w) : Obt P Q base dsts S fs i o :=
  fun a w hS hB hD K hK => ⟨.inl hg, run_value v (hr a.eval w hS fun x u hx => srt_val hx hB hD) (hK _ _ hS (fun _ _ h => h) (by rw [hf]; rfl))⟩
theorem obt_move {x : Operand} (v : Value) (ho : o.op = .move x) (hf : factP fs i = isV v) (hg : o.guard = none) (hx : SrcT base dsts fs o x v) : Obt P Q base dsts S fs i o :=
  obt_run v hf hg fun a w _ hs => by unfold execOp; rw [ho]; simp only [hs x v hx]; rfl
theorem obt_none (v : Value) (hf : factP fs i = isV v) (hg : o.guard = none) (hr : ∀ (ρ : Operand → Value) (w : World), S w → (execOp ρ o).run P w = .ok (.value v) w) : Obt P Q base dsts S fs i o :=
  obt_run v hf hg fun ρ w hS _ => hr ρ w hS
theorem obt_one {x : Operand} {u : Value} (v : Value) (hf : factP fs i = isV v) (hg : o.guard = none) (hx : SrcT base dsts fs o x u) (hr : ∀ (ρ : Operand → Value) (w : World), S w → ρ x = u → (execOp ρ o).run P w = .ok (.value v) w) : Obt P Q base dsts S fs i o :=
  obt_run v hf hg fun ρ w hS hs => hr ρ w hS (hs x u hx)
theorem obt_two {x y : Operand} {u t : Value} (v : Value) (hf : factP fs i = isV v) (hg : o.guard = none) (hx : SrcT base dsts fs o x u) (hy' : SrcT base dsts fs o y t) (hr : ∀ (ρ : Operand → Value) (w : World), S w → ρ x = u → ρ y = t → (execOp ρ o).run P w = .ok (.value v) w) : Obt P Q base dsts S fs i o :=
  obt_run v hf hg fun ρ w hS hs => hr ρ w hS (hs x u hx) (hs y t hy')
/-- An operation that makes memory. -/
theorem obt_make (hst : ∀ f ∈ fs, StableP f) (hg : o.guard = none) (hr : ∀ (a : Act) (w : World), S w → (∀ x u, SrcT base dsts fs o x u → a.eval x = u) → ∃ v w', (execOp a.eval o).run P w = .ok (.value v) w' ∧ S w' ∧ Below w.heap.size w w' ∧ factP fs i v w') : Obt P Q base dsts S fs i o :=
  fun a w hS hB hD K hK => by
    obtain ⟨v, w', h1, h2, h3, h4⟩ := hr a w hS fun x u hx => srt_val hx hB hD
    exact ⟨.inl hg, run_value v h1 (hK _ _ h2 (fun j u h => stable_all hst j u _ _ h3 h) h4)⟩
/-- A call, its arguments all values. -/
theorem obt_call {f : FuncId} {xs : Array Operand} {ts : Array TypeId} {fn : Func} (hst : ∀ f ∈ fs, StableP f) (args : List Value) (ho : o.op = .call { callee := .value (.func f), args := xs, argTypes := ts }) (hfn : P.funcs[f]? = some fn) (hn : (fn.name == "runtime.NumGoroutine") = false) (hb : fn.body.isSome = true)
    (hg : o.guard = none) (hx : SrcsT base dsts fs o xs.toList args)
    (hc : ∀ w, S w → Calls P f args.toArray w fun e w' => ∃ v, e = .returned v ∧ S w' ∧ Below w.heap.size w w' ∧ factP fs i v w') : Obt P Q base dsts S fs i o :=
  fun a w hS hB hD K hK => ⟨.inl hg, run_call ho hfn hn hb args.toArray (by
    rw [← srts_val hB hD _ _ hx]; exact Array.toList_inj.1 (by simp)) ((hc w hS).mono fun e w' ⟨v, he, h1, h2, h3⟩ => ⟨v, he, hK _ _ h1 (fun j u h => stable_all hst j u _ _ h2 h) h3⟩)⟩
/-- A call of two arguments, the first of which a forerunner has made; .. the second of which. -/
theorem obt_call_l {f : FuncId} {d : Tmp} {y : Operand} {ts : Array TypeId} {fn : Func} {u : Value} (hst : ∀ f ∈ fs, StableP f) (j : Nat) (ho : o.op = .call { callee := .value (.func f), args := #[.tmp d, y], argTypes := ts }) (hfn : P.funcs[f]? = some fn) (hn : (fn.name == "runtime.NumGoroutine") = false) (hb : fn.body.isSome = true)
    (hg : o.guard = none) (h1 : dsts[j]? = some (some d)) (h2 : depT o j = true) (hx : SrcT base dsts fs o y u)
    (hc : ∀ v w, S w → factP fs j v w → Calls P f #[v, u] w fun e w' => ∃ r, e = .returned r ∧ S w' ∧ Below w.heap.size w w' ∧ factP fs i r w') : Obt P Q base dsts S fs i o :=
  fun a w hS hB hD K hK => ⟨.inl hg, run_call ho hfn hn hb #[a.tmps.getD d undef, u] (by
    have := srt_val hx hB hD
    simp only [List.map_toArray, List.map_cons, List.map_nil, this]; rfl) ((hc _ w hS (hD j d h1 h2)).mono fun e w' ⟨v, he, g1, g2, g3⟩ => ⟨v, he, hK _ _ g1 (fun j u h => stable_all hst j u _ _ g2 h) g3⟩)⟩
theorem obt_call_r {f : FuncId} {d : Tmp} {y : Operand} {ts : Array TypeId} {fn : Func} {u : Value} (hst : ∀ f ∈ fs, StableP f) (j : Nat) (ho : o.op = .call { callee := .value (.func f), args := #[y, .tmp d], argTypes := ts }) (hfn : P.funcs[f]? = some fn) (hn : (fn.name == "runtime.NumGoroutine") = false) (hb : fn.body.isSome = true)
    (hg : o.guard = none) (h1 : dsts[j]? = some (some d)) (h2 : depT o j = true) (hx : SrcT base dsts fs o y u)
    (hc : ∀ v w, S w → factP fs j v w → Calls P f #[u, v] w fun e w' => ∃ r, e = .returned r ∧ S w' ∧ Below w.heap.size w w' ∧ factP fs i r w') : Obt P Q base dsts S fs i o :=
  fun a w hS hB hD K hK => ⟨.inl hg, run_call ho hfn hn hb #[u, a.tmps.getD d undef] (by
    have := srt_val hx hB hD
    simp only [List.map_toArray, List.map_cons, List.map_nil, this]; rfl) ((hc _ w hS (hD j d h1 h2)).mono fun e w' ⟨v, he, g1, g2, g3⟩ => ⟨v, he, hK _ _ g1 (fun j u h => stable_all hst j u _ _ g2 h) g3⟩)⟩

/-- The last operation: an assignment of what a forerunner has left. -/
theorem tail_assign {last : Oper} {a' : Act} {w' : World} {x : Operand} {v : Value} (ho : last.op = .assign x) (hx : a'.eval x = v) (hq : Q .normal (a'.put last.dst v) w') (K : Act → World → Prop) (hK : ∀ v w2, Q .normal (a'.put last.dst v) w2 → K (a'.put last.dst v) w2) : last.wp P a' w' K Q :=
  run_value v (by unfold execOp; rw [ho]; simp only [hx]; rfl) (hK v w' hq)
/-- A frame that is written out. -/
def frameAt (a : Act) : Nat → List Value → Prop
  | _, [] => True
  | k, x :: r => a.tmps.getD k undef = x ∧ frameAt a (k + 1) r
theorem frameAt_get (a : Act) : ∀ (l : List Value) (k i : Nat) (x : Value), frameAt a k l → l[i]? = some x → a.tmps.getD (k + i) undef = x
  | [], k, i, x, _, h => by simp at h
  | y :: r, k, i, x, hf, h => by
    cases i with
    | zero => simp only [List.getElem?_cons_zero, Option.some.injEq] at h; subst h; exact hf.1
    | succ i =>
      simp only [List.getElem?_cons_succ] at h
      have := frameAt_get a r (k + 1) i x hf.2 h
      rwa [show k + 1 + i = k + (i + 1) by omega] at this
theorem frame_eq {a : Act} (l : List Value) {ds : List Deferred} (hs : a.tmps.size = l.length) (hd : a.defers = ds) (h : frameAt a 0 l) : a = ⟨l.toArray, ds⟩ := by
  obtain ⟨ts, df⟩ := a
  simp only at hs hd
  subst hd
  congr 1
  apply Array.ext
  · simpa using hs
  · intro i h1 h2
    have hl : l[i]? = some l[i] := List.getElem?_eq_getElem (by simpa using h2)
    have := frameAt_get _ l 0 i _ h hl
    rw [Nat.zero_add] at this
    simp only [Array.getD_eq_getD_getElem?, Array.getElem?_eq_getElem h1, Option.getD_some] at this
    rw [this]; simp
end
end Go.Proofs.Ytnhijmhambggbaa
