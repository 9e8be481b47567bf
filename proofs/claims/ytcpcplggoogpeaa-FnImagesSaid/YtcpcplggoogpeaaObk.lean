/-
  A region that draws its order: its operations, kind by kind.
-/
import Derived.Test.YtcpcplggoogpeaaEachM
namespace Go.Proofs.Ytcpcplggoogpeaa
open Go.RowKit

/-- The operation waits for number j. -/
def dep (o : Oper) (j : Nat) : Bool := o.after.any fun e => e.on == j && Region.binds .any e
/-- What an operand reads as: a slot from before, a slot of a forerunner, a constant. -/
def Src (base : List (Tmp × Value)) (dsts : List (Option Tmp)) (fs : List Fact) (o : Oper) (x : Operand) (v : Value) : Prop :=
  (∃ t, x = .tmp t ∧ base.lookup t = some v) ∨ (∃ j d, x = .tmp d ∧ dsts[j]? = some (some d) ∧ dep o j = true ∧ factAt fs j = .val v) ∨ x = .const v
theorem src_b {base : List (Tmp × Value)} {dsts : List (Option Tmp)} {fs : List Fact} {o : Oper} {v : Value} (t : Tmp) (h : base.lookup t = some v) : Src base dsts fs o (.tmp t) v := .inl ⟨t, rfl, h⟩
theorem src_j {base : List (Tmp × Value)} {dsts : List (Option Tmp)} {fs : List Fact} {o : Oper} {v : Value} {d : Tmp} (j : Nat) (h1 : dsts[j]? = some (some d)) (h2 : dep o j = true) (h3 : factAt fs j = .val v) : Src base dsts fs o (.tmp d) v := .inr (.inl ⟨j, d, rfl, h1, h2, h3⟩)
theorem src_c {base : List (Tmp × Value)} {dsts : List (Option Tmp)} {fs : List Fact} {o : Oper} {v : Value} : Src base dsts fs o (.const v) v := .inr (.inr rfl)
/-- The guard says yes. -/
def Yes (dsts : List (Option Tmp)) (fs : List Fact) (o : Oper) : Prop :=
  o.guard = none ∨ ∃ j d, o.guard = some (j, true) ∧ dsts[j]? = some (some d) ∧ dep o j = true ∧ factAt fs j = .val (.bool true)
theorem yes_j {dsts : List (Option Tmp)} {fs : List Fact} {o : Oper} {d : Tmp} (j : Nat) (h0 : o.guard = some (j, true)) (h1 : dsts[j]? = some (some d)) (h2 : dep o j = true) (h3 : factAt fs j = .val (.bool true)) : Yes dsts fs o := .inr ⟨j, d, h0, h1, h2, h3⟩

def Srcs (base : List (Tmp × Value)) (dsts : List (Option Tmp)) (fs : List Fact) (o : Oper) : List Operand → List Value → Prop
  | [], [] => True
  | x :: l, v :: r => Src base dsts fs o x v ∧ Srcs base dsts fs o l r
  | _, _ => False
section
variable {P : Program} {Q : Exit → Act → World → Prop} {base : List (Tmp × Value)} {dsts : List (Option Tmp)} {S : World → Prop} {fs : List Fact} {i : Nat} {o : Oper}
theorem src_val {a : Act} {w : World} {x : Operand} {v : Value} (h : Src base dsts fs o x v) (hb : ∀ t v, base.lookup t = some v → a.tmps.getD t undef = v)
    (hd : ∀ j d, dsts[j]? = some (some d) → dep o j = true → (factAt fs j).holds (a.tmps.getD d undef) w) : a.eval x = v := by
  rcases h with ⟨t, rfl, h⟩ | ⟨j, d, rfl, h1, h2, h3⟩ | rfl
  · exact hb t v h
  · have := hd j d h1 h2
    rw [h3] at this; exact this
  · rfl
theorem yes_guard {a : Act} {w : World} (h : Yes dsts fs o) (hd : ∀ j d, dsts[j]? = some (some d) → dep o j = true → (factAt fs j).holds (a.tmps.getD d undef) w) :
    o.guard = none ∨ ∃ j d, o.guard = some (j, true) ∧ dsts[j]? = some (some d) ∧ a.tmps.getD d undef = .bool true := by
  rcases h with h | ⟨j, d, h0, h1, h2, h3⟩
  · exact .inl h
  · have := hd j d h1 h2
    rw [h3] at this; exact .inr ⟨j, d, h0, h1, this⟩

/-- An operation that yields v of what its operands read as, in whatever world meets S. -/
theorem obk_run (v : Value) (hf : factAt fs i = .val v) (hy : Yes dsts fs o) (hr : ∀ (a : Act) (w : World), S w → (∀ x u, Src base dsts fs o x u → a.eval x = u) → (execOp a.eval o).run P w = .ok (.value v) w) : Ob P Q base dsts S fs i o :=
  fun a w hS hB hD K hK => ⟨yes_guard hy hD, ob_run v (hr a w hS fun x u hx => src_val hx hB hD) (hK _ _ hS (Below.refl _ _) (by rw [hf]; rfl))⟩
theorem obk_move {x : Operand} (v : Value) (ho : o.op = .move x) (hf : factAt fs i = .val v) (hy : Yes dsts fs o) (hx : Src base dsts fs o x v) : Ob P Q base dsts S fs i o :=
  obk_run v hf hy fun a w _ hs => by unfold execOp; rw [ho]; simp only [hs x v hx]; rfl
theorem obk_assign {x : Operand} (v : Value) (ho : o.op = .assign x) (hf : factAt fs i = .val v) (hy : Yes dsts fs o) (hx : Src base dsts fs o x v) : Ob P Q base dsts S fs i o :=
  obk_run v hf hy fun a w _ hs => by unfold execOp; rw [ho]; simp only [hs x v hx]; rfl
theorem obk_pick {c x y : Operand} (v : Value) (ho : o.op = .pick c x y) (hf : factAt fs i = .val v) (hy : Yes dsts fs o) (hc : Src base dsts fs o c (.bool true)) (hx : Src base dsts fs o x v) : Ob P Q base dsts S fs i o :=
  obk_run v hf hy fun a w _ hs => by
    unfold execOp; rw [ho]; simp only [hs c _ hc, hs x v hx]; rfl
/-- Of one operand, of two. -/
theorem obk_one {x : Operand} {u : Value} (v : Value) (hf : factAt fs i = .val v) (hy : Yes dsts fs o) (hx : Src base dsts fs o x u) (hr : ∀ (ρ : Operand → Value) (w : World), S w → ρ x = u → (execOp ρ o).run P w = .ok (.value v) w) : Ob P Q base dsts S fs i o :=
  obk_run v hf hy fun a w hS hs => hr a.eval w hS (hs x u hx)
theorem obk_two {x y : Operand} {u t : Value} (v : Value) (hf : factAt fs i = .val v) (hy : Yes dsts fs o) (hx : Src base dsts fs o x u) (hy' : Src base dsts fs o y t) (hr : ∀ (ρ : Operand → Value) (w : World), S w → ρ x = u → ρ y = t → (execOp ρ o).run P w = .ok (.value v) w) : Ob P Q base dsts S fs i o :=
  obk_run v hf hy fun a w hS hs => hr a.eval w hS (hs x u hx) (hs y t hy')
/-- A call of one argument or of more, all of them values. -/
theorem obk_call {f : FuncId} {xs : Array Operand} {ts : Array TypeId} {fn : Func} (args : List Value) (ho : o.op = .call { callee := .value (.func f), args := xs, argTypes := ts }) (hfn : P.funcs[f]? = some fn) (hn : (fn.name == "runtime.NumGoroutine") = false) (hb : fn.body.isSome = true)
    (hy : Yes dsts fs o) (hx : Srcs base dsts fs o xs.toList args)
    (hc : ∀ w, S w → Calls P f args.toArray w fun e w' => ∃ v, e = .returned v ∧ S w' ∧ Below w.heap.size w w' ∧ (factAt fs i).holds v w') : Ob P Q base dsts S fs i o :=
  fun a w hS hB hD K hK => ⟨yes_guard hy hD, ob_call ho hfn hn hb args.toArray (by
    have : ∀ (l : List Operand) (r : List Value), Srcs base dsts fs o l r → l.map a.eval = r := fun l => by
      induction l with
      | nil => intro r h; cases r with
        | nil => rfl
        | cons v r => exact h.elim
      | cons x l ih => intro r h; cases r with
        | nil => exact h.elim
        | cons v r => rw [List.map_cons, src_val h.1 hB hD, ih r h.2]
    rw [← this _ _ hx]; exact Array.toList_inj.1 (by simp)) ((hc w hS).mono fun e w' ⟨v, he, h1, h2, h3⟩ => ⟨v, he, hK _ _ h1 h2 h3⟩)⟩
/-- A call whose first argument is a list of lists that a forerunner has made. -/
theorem obk_call1 {f : FuncId} {d : Tmp} {y : Operand} {ts : Array TypeId} {fn : Func} {m : List (List Int)} {u : Value} (j : Nat) (ho : o.op = .call { callee := .value (.func f), args := #[.tmp d, y], argTypes := ts }) (hfn : P.funcs[f]? = some fn) (hn : (fn.name == "runtime.NumGoroutine") = false) (hb : fn.body.isSome = true)
    (hy : Yes dsts fs o) (h1 : dsts[j]? = some (some d)) (h2 : dep o j = true) (h3 : factAt fs j = .mat m) (hx : Src base dsts fs o y u)
    (hc : ∀ v w, S w → InMat w v m → Calls P f #[v, u] w fun e w' => ∃ r, e = .returned r ∧ S w' ∧ Below w.heap.size w w' ∧ (factAt fs i).holds r w') : Ob P Q base dsts S fs i o :=
  fun a w hS hB hD K hK => ⟨yes_guard hy hD, ob_call ho hfn hn hb #[a.tmps.getD d undef, u] (by
    have := src_val hx hB hD
    simp only [List.map_toArray, List.map_cons, List.map_nil, this]; rfl) ((hc _ w hS (by have := hD j d h1 h2; rw [h3] at this; exact this)).mono fun e w' ⟨v, he, g1, g2, g3⟩ => ⟨v, he, hK _ _ g1 g2 g3⟩)⟩
end
end Go.Proofs.Ytcpcplggoogpeaa
