/-
  Texts of this claim, one behind the other: Obt, Line, LineOf, Key, Entry, LMap, CountL, LEnt, Ov, LineMap, LList, LSums, Rs, SumF, RowSS, RowS.
-/
import Derived.Test.YtinhdcchfeokpaaPackB
import Derived.DeepKeys5
import Derived.Maps.OwnSet
import Derived.Maps.RangeWalk
import Derived.WideKeyEntry
import Derived.Test.YtinhdcchfeokpaaPackA
import Derived.Deep.CutRange
import Derived.Deep.LoopGhost
/-
  The operations of such a region, kind by kind.
-/
namespace Go.Proofs.Ytinhdcchfeokpaa
open Go.RowKit

/-- What an operand reads as: a slot from before, a slot of a forerunner, a constant. -/
def SrcT (base : List (Tmp × Value)) (dsts : List (Option Tmp)) (fs : List FactP) (o : Oper) (x : Operand) (v : Value) : Prop :=
  (∃ t, x = .tmp t ∧ base.lookup t = some v) ∨ (∃ j d, x = .tmp d ∧ dsts[j]? = some (some d) ∧ depT o j = true ∧ factP fs j = isV v) ∨ x = .const v
theorem srt_b {base : List (Tmp × Value)} {dsts : List (Option Tmp)} {fs : List FactP} {o : Oper} {v : Value} (t : Tmp) (h : base.lookup t = some v) : SrcT base dsts fs o (.tmp t) v := .inl ⟨t, rfl, h⟩
theorem srt_j {base : List (Tmp × Value)} {dsts : List (Option Tmp)} {fs : List FactP} {o : Oper} {v : Value} {d : Tmp} (j : Nat) (h1 : dsts[j]? = some (some d)) (h2 : depT o j = true) (h3 : factP fs j = isV v) : SrcT base dsts fs o (.tmp d) v := .inr (.inl ⟨j, d, rfl, h1, h2, h3⟩)
theorem srt_c {base : List (Tmp × Value)} {dsts : List (Option Tmp)} {fs : List FactP} {o : Oper} {v : Value} : SrcT base dsts fs o (.const v) v := .inr (.inr rfl)
def SrcsT (base : List (Tmp × Value)) (dsts : List (Option Tmp)) (fs : List FactP) (o : Oper) : List Operand → List Value → Prop
  | [], [] => True
  | x :: l, v :: r => SrcT base dsts fs o x v ∧ SrcsT base dsts fs o l r
  | _, _ => False
/-- A slot whose fact is no bare value. -/
def SlotT (dsts : List (Option Tmp)) (o : Oper) (j : Nat) (d : Tmp) : Prop := dsts[j]? = some (some d) ∧ depT o j = true

/-- A fact that stands while nothing that was there turns. -/
def StableP (f : FactP) : Prop := ∀ u w w', Below w.heap.size w w' → f u w → f u w'
theorem stable_v (v : Value) : StableP (isV v) := fun _ _ _ _ h => h
theorem stable_all {fs : List FactP} (h : ∀ f ∈ fs, StableP f) (j : Nat) : StableP (factP fs j) := by
  unfold factP
  rw [List.getD_eq_getElem?_getD]
  cases hj : fs[j]? with
  | none => exact stable_v _
  | some f => exact h f (List.mem_of_getElem? hj)

theorem run_value {P : Program} {Q : Exit → Act → World → Prop} {o : Oper} {a : Act} {w w' : World} {K : Act → World → Prop} (v : Value) (hr : (execOp a.eval o).run P w = .ok (.value v) w') (h : K (a.put o.dst v) w') : o.wp P a w K Q := by
  unfold Oper.wp; rw [hr]; exact h
theorem run_skip {P : Program} {Q : Exit → Act → World → Prop} {o : Oper} {a : Act} {w w' : World} {K : Act → World → Prop} (hr : (execOp a.eval o).run P w = .ok .skip w') (h : K (a.put o.dst undef) w') : o.wp P a w K Q := by
  unfold Oper.wp; rw [hr]; exact h
theorem run_call {P : Program} {Q : Exit → Act → World → Prop} {o : Oper} {a : Act} {w : World} {K : Act → World → Prop} {f : FuncId} {xs : Array Operand} {ts : Array TypeId} (ho : o.op = .call { callee := .value (.func f), args := xs, argTypes := ts })
    {fn : Func} (hfn : P.funcs[f]? = some fn) (hn : (fn.name == "runtime.NumGoroutine") = false) (hb : fn.body.isSome = true) (args : Array Value) (hx : xs.map a.eval = args) (h : Calls P f args w fun e w' => ∃ v, e = .returned v ∧ K (a.put o.dst v) w') : o.wp P a w K Q := by
  subst hx
  unfold Oper.wp
  have hf : a.eval (.func f) = .func (.func f) #[] #[] := rfl
  simp only [execOp, ho, resolve, hf, Deferred.ofValue]
  have hn' : ¬ fn.name = "runtime.NumGoroutine" := by simpa using hn
  have hb' : ¬ fn.body = none := by intro e; rw [e] at hb; cases hb
  simp [invoke, callFunc, Oper.upon, hfn, hn', hb', Result.andThen]
  refine Calls.mono h ?_
  rintro e w' ⟨v, rfl, hk⟩
  exact hk

section
variable {P : Program} {Q : Exit → Act → World → Prop} {base : List (Tmp × Value)} {dsts : List (Option Tmp)} {S : World → Prop} {fs : List FactP} {i : Nat} {o : Oper}
theorem srt_val {a : Act} {w : World} {x : Operand} {v : Value} (h : SrcT base dsts fs o x v) (hb : ∀ t v, base.lookup t = some v → a.tmps.getD t undef = v)
    (hd : ∀ j d, dsts[j]? = some (some d) → depT o j = true → factP fs j (a.tmps.getD d undef) w) : a.eval x = v := by
  rcases h with ⟨t, rfl, h⟩ | ⟨j, d, rfl, h1, h2, h3⟩ | rfl
  · exact hb t v h
  · have := hd j d h1 h2
    rw [h3] at this; exact this
  · rfl
theorem srts_val {a : Act} {w : World} (hB : ∀ t v, base.lookup t = some v → a.tmps.getD t undef = v) (hD : ∀ j d, dsts[j]? = some (some d) → depT o j = true → factP fs j (a.tmps.getD d undef) w) : ∀ (l : List Operand) (r : List Value), SrcsT base dsts fs o l r → l.map a.eval = r := fun l => by
  induction l with
  | nil => intro r h; cases r with
    | nil => rfl
    | cons v r => exact h.elim
  | cons x l ih => intro r h; cases r with
    | nil => exact h.elim
    | cons v r => rw [List.map_cons, srt_val h.1 hB hD, ih r h.2]

/-- An operation that yields v of what its operands read as, in whatever world meets S. -/
theorem obt_run (v : Value) (hf : factP fs i = isV v) (hg : o.guard = none) (hr : ∀ (ρ : Operand → Value) (w : World), S w → (∀ x u, SrcT base dsts fs o x u → ρ x = u) → (execOp ρ o).run P w = .ok (.value v) w) : Obt P Q base dsts S fs i o :=
  fun a w hS hB hD K hK => ⟨.inl hg, run_value v (hr a.eval w hS fun x u hx => srt_val hx hB hD) (hK _ _ hS (fun _ _ h => h) (by rw [hf]; rfl))⟩
theorem obt_move {x : Operand} (v : Value) (ho : o.op = .move x) (hf : factP fs i = isV v) (hg : o.guard = none) (hx : SrcT base dsts fs o x v) : Obt P Q base dsts S fs i o :=
  obt_run v hf hg fun a w _ hs => by unfold execOp; rw [ho]; simp only [hs x v hx]; rfl
theorem obt_none (v : Value) (hf : factP fs i = isV v) (hg : o.guard = none) (hr : ∀ (ρ : Operand → Value) (w : World), S w → (execOp ρ o).run P w = .ok (.value v) w) : Obt P Q base dsts S fs i o :=
  obt_run v hf hg fun ρ w hS _ => hr ρ w hS
theorem obt_one {x : Operand} {u : Value} (v : Value) (hf : factP fs i = isV v) (hg : o.guard = none) (hx : SrcT base dsts fs o x u) (hr : ∀ (ρ : Operand → Value) (w : World), S w → ρ x = u → (execOp ρ o).run P w = .ok (.value v) w) : Obt P Q base dsts S fs i o :=
  obt_run v hf hg fun ρ w hS hs => hr ρ w hS (hs x u hx)
theorem obt_two {x y : Operand} {u t : Value} (v : Value) (hf : factP fs i = isV v) (hg : o.guard = none) (hx : SrcT base dsts fs o x u) (hy' : SrcT base dsts fs o y t) (hr : ∀ (ρ : Operand → Value) (w : World), S w → ρ x = u → ρ y = t → (execOp ρ o).run P w = .ok (.value v) w) : Obt P Q base dsts S fs i o :=
  obt_run v hf hg fun ρ w hS hs => hr ρ w hS (hs x u hx) (hs y t hy')
/-- An operation that makes memory. -/
theorem obt_make (hst : ∀ f ∈ fs, StableP f) (hg : o.guard = none) (hr : ∀ (a : Act) (w : World), S w → (∀ x u, SrcT base dsts fs o x u → a.eval x = u) → ∃ v w', (execOp a.eval o).run P w = .ok (.value v) w' ∧ S w' ∧ Below w.heap.size w w' ∧ factP fs i v w') : Obt P Q base dsts S fs i o :=
  fun a w hS hB hD K hK => by
    obtain ⟨v, w', h1, h2, h3, h4⟩ := hr a w hS fun x u hx => srt_val hx hB hD
    exact ⟨.inl hg, run_value v h1 (hK _ _ h2 (fun j u h => stable_all hst j u _ _ h3 h) h4)⟩
/-- A call, its arguments all values. -/
theorem obt_call {f : FuncId} {xs : Array Operand} {ts : Array TypeId} {fn : Func} (hst : ∀ f ∈ fs, StableP f) (args : List Value) (ho : o.op = .call { callee := .value (.func f), args := xs, argTypes := ts }) (hfn : P.funcs[f]? = some fn) (hn : (fn.name == "runtime.NumGoroutine") = false) (hb : fn.body.isSome = true)
    (hg : o.guard = none) (hx : SrcsT base dsts fs o xs.toList args)
    (hc : ∀ w, S w → Calls P f args.toArray w fun e w' => ∃ v, e = .returned v ∧ S w' ∧ Below w.heap.size w w' ∧ factP fs i v w') : Obt P Q base dsts S fs i o :=
  fun a w hS hB hD K hK => ⟨.inl hg, run_call ho hfn hn hb args.toArray (by
    rw [← srts_val hB hD _ _ hx]; exact Array.toList_inj.1 (by simp)) ((hc w hS).mono fun e w' ⟨v, he, h1, h2, h3⟩ => ⟨v, he, hK _ _ h1 (fun j u h => stable_all hst j u _ _ h2 h) h3⟩)⟩
/-- A call of two arguments, the first of which a forerunner has made; .. the second of which. -/
theorem obt_call_l {f : FuncId} {d : Tmp} {y : Operand} {ts : Array TypeId} {fn : Func} {u : Value} (hst : ∀ f ∈ fs, StableP f) (j : Nat) (ho : o.op = .call { callee := .value (.func f), args := #[.tmp d, y], argTypes := ts }) (hfn : P.funcs[f]? = some fn) (hn : (fn.name == "runtime.NumGoroutine") = false) (hb : fn.body.isSome = true)
    (hg : o.guard = none) (h1 : dsts[j]? = some (some d)) (h2 : depT o j = true) (hx : SrcT base dsts fs o y u)
    (hc : ∀ v w, S w → factP fs j v w → Calls P f #[v, u] w fun e w' => ∃ r, e = .returned r ∧ S w' ∧ Below w.heap.size w w' ∧ factP fs i r w') : Obt P Q base dsts S fs i o :=
  fun a w hS hB hD K hK => ⟨.inl hg, run_call ho hfn hn hb #[a.tmps.getD d undef, u] (by
    have := srt_val hx hB hD
    simp only [List.map_toArray, List.map_cons, List.map_nil, this]; rfl) ((hc _ w hS (hD j d h1 h2)).mono fun e w' ⟨v, he, g1, g2, g3⟩ => ⟨v, he, hK _ _ g1 (fun j u h => stable_all hst j u _ _ g2 h) g3⟩)⟩
theorem obt_call_r {f : FuncId} {d : Tmp} {y : Operand} {ts : Array TypeId} {fn : Func} {u : Value} (hst : ∀ f ∈ fs, StableP f) (j : Nat) (ho : o.op = .call { callee := .value (.func f), args := #[y, .tmp d], argTypes := ts }) (hfn : P.funcs[f]? = some fn) (hn : (fn.name == "runtime.NumGoroutine") = false) (hb : fn.body.isSome = true)
    (hg : o.guard = none) (h1 : dsts[j]? = some (some d)) (h2 : depT o j = true) (hx : SrcT base dsts fs o y u)
    (hc : ∀ v w, S w → factP fs j v w → Calls P f #[u, v] w fun e w' => ∃ r, e = .returned r ∧ S w' ∧ Below w.heap.size w w' ∧ factP fs i r w') : Obt P Q base dsts S fs i o :=
  fun a w hS hB hD K hK => ⟨.inl hg, run_call ho hfn hn hb #[u, a.tmps.getD d undef] (by
    have := srt_val hx hB hD
    simp only [List.map_toArray, List.map_cons, List.map_nil, this]; rfl) ((hc _ w hS (hD j d h1 h2)).mono fun e w' ⟨v, he, g1, g2, g3⟩ => ⟨v, he, hK _ _ g1 (fun j u h => stable_all hst j u _ _ g2 h) g3⟩)⟩

/-- The last operation: an assignment of what a forerunner has left. -/
theorem tail_assign {last : Oper} {a' : Act} {w' : World} {x : Operand} {v : Value} (ho : last.op = .assign x) (hx : a'.eval x = v) (hq : Q .normal (a'.put last.dst v) w') (K : Act → World → Prop) (hK : ∀ v w2, Q .normal (a'.put last.dst v) w2 → K (a'.put last.dst v) w2) : last.wp P a' w' K Q :=
  run_value v (by unfold execOp; rw [ho]; simp only [hx]; rfl) (hK v w' hq)
/-- A frame that is written out. -/
def frameAt (a : Act) : Nat → List Value → Prop
  | _, [] => True
  | k, x :: r => a.tmps.getD k undef = x ∧ frameAt a (k + 1) r
theorem frameAt_get (a : Act) : ∀ (l : List Value) (k i : Nat) (x : Value), frameAt a k l → l[i]? = some x → a.tmps.getD (k + i) undef = x
  | [], k, i, x, _, h => by simp at h
  | y :: r, k, i, x, hf, h => by
    cases i with
    | zero => simp only [List.getElem?_cons_zero, Option.some.injEq] at h; subst h; exact hf.1
    | succ i =>
      simp only [List.getElem?_cons_succ] at h
      have := frameAt_get a r (k + 1) i x hf.2 h
      rwa [show k + 1 + i = k + (i + 1) by omega] at this
theorem frame_eq {a : Act} (l : List Value) {ds : List Deferred} (hs : a.tmps.size = l.length) (hd : a.defers = ds) (h : frameAt a 0 l) : a = ⟨l.toArray, ds⟩ := by
  obtain ⟨ts, df⟩ := a
  simp only at hs hd
  subst hd
  congr 1
  apply Array.ext
  · simpa using hs
  · intro i h1 h2
    have hl : l[i]? = some l[i] := List.getElem?_eq_getElem (by simpa using h2)
    have := frameAt_get _ l 0 i _ h hl
    rw [Nat.zero_add] at this
    simp only [Array.getD_eq_getD_getElem?, Array.getElem?_eq_getElem h1, Option.getD_some] at this
    rw [this]; simp
end
end Go.Proofs.Ytinhdcchfeokpaa
/-
  Line numbers: lineNumber, l03Least, LineOf of both.
-/
namespace Go.Proofs.Ytinhdcchfeokpaa
open Go.RowKit

def least (dy cols : Int) : Int := min 0 (-dy * (cols - 1))
/-- The number of a cell's line. -/
def lnum (dx dy cols y x : Int) : Int := dx * y - dy * x - least dy cols
structure Near (dx dy : Int) : Prop where
  x1 : 0 ≤ dx
  x2 : dx ≤ 3
  y1 : -3 ≤ dy
  y2 : dy ≤ 3
theorem near_of {dx dy : Int} (h : dirOk dx dy = true) : Near dx dy := by
  simp only [dirOk, Bool.and_eq_true, decide_eq_true_eq] at h
  obtain ⟨⟨⟨⟨h1, h2⟩, h3, h4⟩, -⟩, -⟩ := h
  exact ⟨h1, h2, h3, h4⟩
theorem mul_dx {a b : Int} (h1 : 0 ≤ a) (h2 : a ≤ 3) (h3 : 0 ≤ b) (h4 : b ≤ 5) : 0 ≤ a * b ∧ a * b ≤ 15 := by
  have : a = 0 ∨ a = 1 ∨ a = 2 ∨ a = 3 := by omega
  rcases this with rfl | rfl | rfl | rfl <;> omega
theorem mul_dy {a b : Int} (h1 : -3 ≤ a) (h2 : a ≤ 3) (h3 : 0 ≤ b) (h4 : b ≤ 5) : -15 ≤ a * b ∧ a * b ≤ 15 := by
  have : a = -3 ∨ a = -2 ∨ a = -1 ∨ a = 0 ∨ a = 1 ∨ a = 2 ∨ a = 3 := by omega
  rcases this with rfl | rfl | rfl | rfl | rfl | rfl | rfl <;> omega

end Go.Proofs.Ytinhdcchfeokpaa
/-
  LineOf, of the model and of the program.
-/
namespace Go.Proofs.Ytinhdcchfeokpaa
open Go.RowKit

def sizeOk (r c : Int) : Bool := decide (1 ≤ r ∧ r ≤ 5) && decide (1 ≤ c ∧ c ≤ 5)
theorem sizeOk_yes {r c : Int} (h : sizeOk r c = true) : (1 ≤ r ∧ r ≤ 5) ∧ (1 ≤ c ∧ c ≤ 5) := by simpa [sizeOk] using h
theorem set_get {ts : Array Value} {d n : Tmp} {v : Value} (hs : ts.size = n) (hd : d < n) : (ts.setIfInBounds d v).getD d undef = v := by
  have : d < ts.size := Nat.lt_of_lt_of_eq hd hs.symm
  simp [this]

/-- What LineOf returns. -/
def lineOf (rows cols dx dy y x : Int) : Int := if (sizeOk rows cols = true ∧ dirOk dx dy = true) ∧ (0 ≤ y ∧ y < rows) ∧ 0 ≤ x ∧ x < cols then lnum dx dy cols y x else -1
end Go.Proofs.Ytinhdcchfeokpaa
/-
  The keys of the program's map of lines: a direction and a number.
-/
namespace Go.Proofs.Ytinhdcchfeokpaa
open Go.RowKit
set_option maxRecDepth 100000

/-- A line: its direction and its number. -/
structure Key where
  x : Int
  y : Int
  n : Int
instance : DecidableEq Key := fun a b =>
  if h : a.x = b.x ∧ a.y = b.y ∧ a.n = b.n then isTrue (by obtain ⟨x, y, n⟩ := a; obtain ⟨x', y', n'⟩ := b; simp only at h; obtain ⟨rfl, rfl, rfl⟩ := h; rfl)
  else isFalse fun e => h (by rw [e]; exact ⟨rfl, rfl, rfl⟩)
def Key.wf (k : Key) : Prop := (Lit.int .i64 k.x).wf = true ∧ (Lit.int .i64 k.y).wf = true ∧ (Lit.int .i64 k.n).wf = true
def keyV (k : Key) : Value := .agg #[.int .i64 k.x, .int .i64 k.y, .int .i64 k.n]
theorem Try.laidOut : laidOutB Try.prog = true := by kernel_rfl
theorem Try.cellsInt : Try.prog.cellsOf 3 = 1 := by kernel_rfl
theorem intLits (d : Nat) (v : Value) (L : List Lit) (h : Try.prog.keyLits (d + 1) 3 [v] = some L) : ∃ x, v = .int .i64 x ∧ (Lit.int .i64 x).wf = true := by
  unfold Program.keyLits at h
  rw [Try.underlying3] at h
  cases v <;> simp at h
  obtain ⟨⟨rfl, hw⟩, -⟩ := h
  exact ⟨_, rfl, hw⟩
theorem intLits_mk (d : Nat) (x : Int) (h : (Lit.int .i64 x).wf = true) : Try.prog.keyLits (d + 1) 3 [.int .i64 x] = some [.int .i64 x] := by
  unfold Program.keyLits
  rw [Try.underlying3]
  simp only
  rw [if_pos ⟨trivial, h⟩]
theorem list2 {l : List Value} (h : l.length = 2) : ∃ a b, l = [a, b] := by
  match l, h with
  | [a, b], _ => exact ⟨a, b, rfl⟩
theorem list3 {l : List Value} (h : l.length = 3) : ∃ a b c, l = [a, b, c] := by
  match l, h with
  | [a, b, c], _ => exact ⟨a, b, c, rfl⟩
theorem keyV_inj {k l : Key} (h : keyV k = keyV l) : k = l := by
  obtain ⟨x, y, n⟩ := k
  obtain ⟨x', y', n'⟩ := l
  simp [keyV] at h
  obtain ⟨rfl, rfl, rfl⟩ := h; rfl
end Go.Proofs.Ytinhdcchfeokpaa
/-
  'm[k] += v': the map's entry, met before or behind the look-up.
-/
namespace Go.Proofs.Ytinhdcchfeokpaa
open Go.RowKit Go.Maps
open Go.ChangeMaps (setBlock)
open Go.WideElems (Fit)

theorem push_last (es : Array MapEntry) (e : MapEntry) (f : MapEntry → MapEntry) : (es.push e).modify es.size f = es.push (f e) := by
  apply Array.ext'
  rw [Array.toList_modify, Array.toList_push, Array.toList_push, ← Array.length_toList, WideElems.modify_last]
theorem modify_same (es : Array MapEntry) (j : Nat) (e0 : MapEntry) (f : MapEntry → MapEntry) (h : es[j]? = some e0) (hf : f e0 = e0) : es.modify j f = es := by
  apply Array.ext'
  rw [Array.toList_modify, ChangeMaps.modify_eq_set _ _ _ _ (by simpa using h), hf]
  exact WideElems.set_self _ _ _ (by simpa using h)

section
variable {P : Program} {t k e : TypeId} {b : Nat}
theorem find_no (K : Keyed P k) {x : Value} {lx : Lit} (hx : keyOf P k x = some lx) {es : List MapEntry} (hes : ∀ e ∈ es, ∃ l, keyOf P k e.key = some l) (h : ∀ e ∈ es, e.key ≠ x) (w : World) : (Instr.findKey k x es).run P w = .ok none w := by
  rcases K.find w hx es hes with ⟨h1, _⟩ | ⟨j, e, _, h2, h3⟩
  · exact h1
  · exact absurd h3 (h e (List.mem_of_getElem? h2))
theorem find_yes (K : Keyed P k) {x : Value} {lx : Lit} (hx : keyOf P k x = some lx) {es : List MapEntry} (hes : ∀ e ∈ es, ∃ l, keyOf P k e.key = some l) (hp : es.Pairwise fun x y => x.key ≠ y.key) {j : Nat} {e0 : MapEntry} (hj : es[j]? = some e0) (he : e0.key = x) (w : World) :
    (Instr.findKey k x es).run P w = .ok (some (j, e0.val)) w := by
  rcases K.find w hx es hes with ⟨_, h2⟩ | ⟨i, e, h1, h2, h3⟩
  · exact absurd he (h2 e0 (List.mem_of_getElem? hj))
  · have hij : i = j := by
      obtain ⟨hi, hie⟩ := List.getElem?_eq_some_iff.1 h2
      obtain ⟨hj', hje⟩ := List.getElem?_eq_some_iff.1 hj
      rcases Nat.lt_trichotomy i j with h | h | h
      · exact absurd (by rw [hie, hje, h3, he]) (List.pairwise_iff_getElem.1 hp i j hi hj' h)
      · exact h
      · exact absurd (by rw [hie, hje, h3, he]) (List.pairwise_iff_getElem.1 hp j i hj' hi h)
    subst hij
    rw [hj] at h2
    obtain rfl := Option.some.inj h2
    exact h1

/-- The entry at a key is made or found; the look-up yields the same before and behind it; the store behind it is a store at the key. -/
theorem entry_all {H : Type} {R : Value → Option (DataW H × List MemPlace)} {es : Array MapEntry} {clock : Nat} (K : Keyed P k) (ht : P.underlying t = some (.map k e)) {z : Value} (hz : ∀ u : World, (zeroValue e).run P u = .ok z u) (F : Fit P k R es clock)
    {key : Value} {lx : Lit} (hkey : keyOf P k key = some lx) :
    ∃ (v0 : Value) (st : Nat) (es1 : Array MapEntry) (clock1 : Nat),
      (∀ w : World, w.heap[b]? = some (.map es clock) → (Instr.mapEntry t (.map (some b)) key).run P w = .ok (.tuple #[v0, goInt st]) (setBlock w b (.map es1 clock1))) ∧
      (∀ w : World, w.heap[b]? = some (.map es1 clock1) → (Instr.mapEntry t (.map (some b)) key).run P w = .ok (.tuple #[v0, goInt st]) (setBlock w b (.map es1 clock1))) ∧
      (∀ w : World, w.heap[b]? = some (.map es clock) → (Instr.lookup t (.map (some b)) key false).run P w = .ok v0 w) ∧
      (∀ w : World, w.heap[b]? = some (.map es1 clock1) → (Instr.lookup t (.map (some b)) key false).run P w = .ok v0 w) ∧
      ∀ val : Value, ∃ es' clock', (∀ w : World, w.heap[b]? = some (.map es1 clock1) → (Instr.entryStore t (.map (some b)) (goInt st) val).run P w = .ok () (setBlock w b (.map es' clock'))) ∧
        ∀ w : World, w.heap[b]? = some (.map es clock) → (Instr.mapUpdate t (.map (some b)) key val).run P w = .ok () (setBlock w b (.map es' clock')) := by
  obtain ⟨s1, s2, s3⟩ := F.stamped
  have hpw : es.toList.Pairwise fun x y => x.key ≠ y.key := by have := s3; unfold List.Nodup at this; rw [List.pairwise_map] at this; exact this
  by_cases hin : ∃ (j : Nat) (e0 : MapEntry), es.toList[j]? = some e0 ∧ e0.key = key
  · obtain ⟨j, e0, h2, h3⟩ := hin
    have hf := fun w => find_yes K hkey F.keys hpw h2 h3 w
    have hj : es[j]? = some e0 := by simpa using h2
    have hsame : es.modify j (fun e => { e with key := key }) = es := modify_same es j e0 _ hj (by rw [← h3])
    have hr : ∀ w : World, w.heap[b]? = some (.map es clock) → (Instr.mapEntry t (.map (some b)) key).run P w = .ok (.tuple #[e0.val, goInt e0.born]) (setBlock w b (.map es clock)) := fun w hb => by
      simp [Instr.mapEntry, run_underlying ht, MapKept.run_getObj_map hb, K.check w false hkey, hf w, hj, h3, K.stays w hkey, hsame, MapKept.run_setObj_map _ hb, Result.andThen, setBlock]
    have hl : ∀ w : World, w.heap[b]? = some (.map es clock) → (Instr.lookup t (.map (some b)) key false).run P w = .ok e0.val w := fun w hb => by
      simp [Instr.lookup, run_underlying ht, MapKept.run_getObj_map hb, K.check w _ hkey, hf w, Result.andThen]
    refine ⟨e0.val, e0.born, es, clock, hr, hr, hl, hl, fun val => ⟨es.modify j (fun e' => { e' with key := key, val := val }), clock, fun w hb => ?_, fun w hb => ?_⟩⟩
    · have hidx : es.findIdx? (fun e => ((e.born : Nat) : Int) == ((e0.born : Nat) : Int)) = some j := by
        rw [WideElems.findIdx_arr]; exact WideElems.findIdx_born s2 h2
      have hmod : es.modify j (fun e => { e with val := val }) = es.modify j (fun e' => { e' with key := key, val := val }) := by
        apply Array.ext'
        rw [Array.toList_modify, Array.toList_modify, ChangeMaps.modify_eq_set _ _ _ _ h2, ChangeMaps.modify_eq_set _ _ _ _ h2, ← h3]
      simp [Instr.entryStore, MapKept.run_getObj_map hb, asInt, asIntOf, goInt, hidx, hmod, MapKept.run_setObj_map _ hb, Result.andThen, setBlock]
    · simp [Instr.mapUpdate, run_underlying ht, MapKept.run_getObj_map hb, K.check w false hkey, hf w, hj, h3, K.stays w hkey, MapKept.run_setObj_map _ hb, Result.andThen, setBlock]
  · have hno : ∀ x ∈ es.toList, x.key ≠ key := fun x hx e1 => by
      obtain ⟨j, hj⟩ := List.getElem?_of_mem hx
      exact hin ⟨j, x, hj, e1⟩
    have hf := fun w => find_no K hkey F.keys hno w
    have hk1 : ∀ x ∈ (es.push ⟨key, z, clock⟩).toList, ∃ l, keyOf P k x.key = some l := fun x hx => by
      rw [Array.toList_push, List.mem_append, List.mem_singleton] at hx
      rcases hx with hx | rfl
      · exact F.keys x hx
      · exact ⟨_, hkey⟩
    have hp1 : (es.push ⟨key, z, clock⟩).toList.Pairwise fun x y => x.key ≠ y.key := by
      rw [Array.toList_push]
      refine List.pairwise_append.2 ⟨hpw, List.pairwise_singleton _ _, fun x hx y hy => ?_⟩
      rw [List.mem_singleton] at hy
      subst hy
      exact hno x hx
    have hlast : (es.push ⟨key, z, clock⟩).toList[es.size]? = some ⟨key, z, clock⟩ := by simp
    have hf1 := fun w => find_yes K hkey hk1 hp1 hlast rfl w
    have hj1 : (es.push ⟨key, z, clock⟩)[es.size]? = some ⟨key, z, clock⟩ := by simp
    have hsame : (es.push ⟨key, z, clock⟩).modify es.size (fun e => { e with key := key }) = es.push ⟨key, z, clock⟩ := by rw [push_last]
    refine ⟨z, clock, es.push ⟨key, z, clock⟩, clock + 1, fun w hb => ?_, fun w hb => ?_, fun w hb => ?_, fun w hb => ?_, fun val => ⟨es.push ⟨key, val, clock⟩, clock + 1, fun w hb => ?_, fun w hb => ?_⟩⟩
    · simp [Instr.mapEntry, run_underlying ht, MapKept.run_getObj_map hb, K.check w false hkey, hf w, hz, MapKept.run_setObj_map _ hb, Result.andThen, setBlock]
    · have := hf1 w
      simp only [Array.toList_push] at this
      simp [Instr.mapEntry, run_underlying ht, MapKept.run_getObj_map hb, K.check w false hkey, this, K.stays w hkey, hsame, MapKept.run_setObj_map _ hb, Result.andThen, setBlock]
    · simp [Instr.lookup, run_underlying ht, MapKept.run_getObj_map hb, K.check w _ hkey, hf w, hz, Result.andThen]
    · have := hf1 w
      simp only [Array.toList_push] at this
      simp [Instr.lookup, run_underlying ht, MapKept.run_getObj_map hb, K.check w _ hkey, this, Result.andThen]
    · have hidx : (es.push ⟨key, z, clock⟩).findIdx? (fun e => ((e.born : Nat) : Int) == ((clock : Nat) : Int)) = some es.size := by
        rw [WideElems.findIdx_arr]
        exact WideElems.findIdx_born (l := (es.push ⟨key, z, clock⟩).toList) (j := es.size) (e0 := ⟨key, z, clock⟩) (by
          simp only [Array.toList_push, List.map_append, List.map_cons, List.map_nil]
          refine List.nodup_append.2 ⟨s2, by simp, fun a ha c hc e1 => ?_⟩
          simp only [List.mem_singleton] at hc
          obtain ⟨x, hx, rfl⟩ := List.mem_map.1 ha
          have := s1 x hx
          omega) (by simp)
      have hmod := push_last es ⟨key, z, clock⟩ (fun e => { e with val := val })
      simp [Instr.entryStore, MapKept.run_getObj_map hb, asInt, asIntOf, goInt, hidx, hmod, MapKept.run_setObj_map _ hb, Result.andThen, setBlock]
    · simp [Instr.mapUpdate, run_underlying ht, MapKept.run_getObj_map hb, K.check w false hkey, hf w, MapKept.run_setObj_map _ hb, Result.andThen, setBlock]
end
end Go.Proofs.Ytinhdcchfeokpaa
/-
  A map of lines by its content: which keys are there, and what stands at each.
-/
namespace Go.Proofs.Ytinhdcchfeokpaa
open Go.RowKit Go.Maps
open Go.ChangeMaps (setBlock)
open Go.WideElems (Fit rd rg pl rd_key)
set_option maxRecDepth 100000

theorem Try.zeroInt (w : World) : (zeroValue 3).run Try.prog w = .ok (.int .i64 0) w := by kernel_rfl
def setK {α : Type} (f : Key → α) (k : Key) (v : α) : Key → α := fun z => if z = k then v else f z
theorem sb_same {w : World} {b : Nat} {o o' : Obj} (h : w.heap[b]? = some o) : (setBlock w b o').heap[b]? = some o' := by
  have := (Array.getElem?_eq_some_iff.1 h).1
  simp [setBlock, this]
theorem sb_other (w : World) {b i : Nat} (o' : Obj) (h : i ≠ b) : (setBlock w b o').heap[i]? = w.heap[i]? := by
  simp [setBlock, Array.getElem?_setIfInBounds_ne (Ne.symm h)]
theorem sb_grown (w : World) (b : Nat) (o' : Obj) : w.grownBy (setBlock w b o') (some b) :=
  ⟨rfl, rfl, rfl, by simp [setBlock], fun i _ hi => sb_other w o' fun e => hi (by rw [e])⟩

end Go.Proofs.Ytinhdcchfeokpaa
/-
  CountLines, of the model and of the program.
-/
namespace Go.Proofs.Ytinhdcchfeokpaa
open Go.RowKit

theorem lnum_range {rows cols dx dy y x : Int} (hn : Near dx dy) (r1 : 1 ≤ rows) (r2 : rows ≤ 5) (c1 : 1 ≤ cols) (c2 : cols ≤ 5) (y1 : 0 ≤ y) (y2 : y < rows) (x1 : 0 ≤ x) (x2 : x < cols) :
    0 ≤ lnum dx dy cols y x ∧ lnum dx dy cols y x ≤ 40 ∧ lnum dx dy cols y x ≤ max (lnum dx dy cols (rows - 1) 0) (lnum dx dy cols (rows - 1) (cols - 1)) := by
  obtain ⟨n1, n2, n3, n4⟩ := hn
  have hx : dx = 0 ∨ dx = 1 ∨ dx = 2 ∨ dx = 3 := by omega
  have hy : dy = -3 ∨ dy = -2 ∨ dy = -1 ∨ dy = 0 ∨ dy = 1 ∨ dy = 2 ∨ dy = 3 := by omega
  unfold lnum least
  rcases hx with rfl | rfl | rfl | rfl <;> rcases hy with rfl | rfl | rfl | rfl | rfl | rfl | rfl <;> omega
/-- The greatest number of a line, plus 1. -/
def countL (rows cols dx dy : Int) : Int := 1 + max (lnum dx dy cols (rows - 1) 0) (lnum dx dy cols (rows - 1) (cols - 1))
/-- n is the greatest 1 + number of the cells up to (k, j). -/
def UpTo (dx dy cols k j n : Int) : Prop :=
  (0 ≤ n ∧ n ≤ 41) ∧ (∀ y x, 0 ≤ y → 0 ≤ x → x < cols → (y < k ∨ (y = k ∧ x < j)) → 1 + lnum dx dy cols y x ≤ n) ∧ (n = 0 ∨ ∃ y x, 0 ≤ y ∧ 0 ≤ x ∧ x < cols ∧ (y < k ∨ (y = k ∧ x < j)) ∧ n = 1 + lnum dx dy cols y x)
theorem upTo_zero (dx dy cols : Int) : UpTo dx dy cols 0 0 0 := ⟨by omega, fun y x h1 h2 h3 h4 => by omega, .inl rfl⟩
theorem upTo_step {rows cols dx dy k j n : Int} (hn : Near dx dy) (r1 : 1 ≤ rows) (r2 : rows ≤ 5) (c1 : 1 ≤ cols) (c2 : cols ≤ 5) (y1 : 0 ≤ k) (y2 : k < rows) (x1 : 0 ≤ j) (x2 : j < cols) (h : UpTo dx dy cols k j n) :
    UpTo dx dy cols k (j + 1) (max n (1 + lnum dx dy cols k j)) := by
  obtain ⟨⟨h1, h2⟩, h3, h4⟩ := h
  obtain ⟨l1, l2, -⟩ := lnum_range hn r1 r2 c1 c2 y1 y2 x1 x2
  refine ⟨by omega, fun y x q1 q2 q3 q4 => ?_, ?_⟩
  · by_cases e : y = k ∧ x = j
    · obtain ⟨rfl, rfl⟩ := e; omega
    · have := h3 y x q1 q2 q3 (by omega); omega
  · by_cases e : n ≤ 1 + lnum dx dy cols k j
    · exact .inr ⟨k, j, y1, x1, x2, by omega, by omega⟩
    · rcases h4 with h4 | ⟨y, x, q1, q2, q3, q4, q5⟩
      · omega
      · exact .inr ⟨y, x, q1, q2, q3, by omega, by omega⟩
theorem upTo_row {cols dx dy k n : Int} (_c : 0 < cols) (h : UpTo dx dy cols k cols n) : UpTo dx dy cols (k + 1) 0 n := by
  obtain ⟨h1, h3, h4⟩ := h
  refine ⟨h1, fun y x q1 q2 q3 q4 => h3 y x q1 q2 q3 (by omega), ?_⟩
  rcases h4 with h4 | ⟨y, x, q1, q2, q3, q4, q5⟩
  · exact .inl h4
  · exact .inr ⟨y, x, q1, q2, q3, by omega, q5⟩
theorem upTo_all {rows cols dx dy n : Int} (hn : Near dx dy) (r1 : 1 ≤ rows) (r2 : rows ≤ 5) (c1 : 1 ≤ cols) (c2 : cols ≤ 5) (h : UpTo dx dy cols rows 0 n) : n = countL rows cols dx dy := by
  obtain ⟨⟨h1, h2⟩, h3, h4⟩ := h
  have a := h3 (rows - 1) 0 (by omega) (by omega) (by omega) (by omega)
  have b := h3 (rows - 1) (cols - 1) (by omega) (by omega) (by omega) (by omega)
  obtain ⟨p1, -⟩ := lnum_range hn r1 r2 c1 c2 (show 0 ≤ rows - 1 by omega) (by omega) (show 0 ≤ (0 : Int) by omega) (by omega)
  unfold countL
  rcases h4 with h4 | ⟨y, x, q1, q2, q3, q4, q5⟩
  · omega
  · obtain ⟨-, -, q⟩ := lnum_range hn r1 r2 c1 c2 q1 (by omega) q2 q3
    omega

theorem max_if (a b : Int) : (if a < b then b else a) = max a b := by split <;> omega
theorem exec_max {ρ : Operand → Value} {o : Oper} {w : World} {x y : Operand} {a b : Int} (ho : o.op = .call { callee := .builtin .max, args := #[x, y], argTypes := #[3, 3] }) (ht : o.type = 3) (hx : ρ x = .int .i64 a) (hy : ρ y = .int .i64 b) : (execOp ρ o).run Try.prog w = .ok (.value (.int .i64 (max a b))) w := by
  unfold execOp
  simp only [ho, ht]
  rw [← max_if]
  go_simp
end Go.Proofs.Ytinhdcchfeokpaa
/-
  'm[k] += ..' in a region that draws its order: its operations.
-/
namespace Go.Proofs.Ytinhdcchfeokpaa
open Go.RowKit Go.Maps
open Go.ChangeMaps (setBlock)
set_option maxRecDepth 100000

/-- A slot's value, and what block b holds. -/
def isB (v : Value) (b : Nat) (E : Obj) : FactP := fun u w => u = v ∧ w.heap[b]? = some E
theorem stable_b (v : Value) (b : Nat) (E : Obj) : StableP (isB v b E) := fun _ _ _ hb h => ⟨h.1, (hb.block b (Array.getElem?_eq_some_iff.1 h.2).1).trans h.2⟩
/-- A fact that outlives the making of the entry. -/
def OutP (b : Nat) (E : Obj) (f : FactP) : Prop := ∀ (u : Value) (w : World) (E' : Obj), w.heap[b]? = some E' → f u w → f u (setBlock w b E)
theorem out_v (v : Value) (b : Nat) (E : Obj) : OutP b E (isV v) := fun _ _ _ _ h => h
theorem out_b (v : Value) (b : Nat) (E : Obj) : OutP b E (isB v b E) := fun _ _ _ he h => ⟨h.1, sb_same he⟩
theorem out_all {fs : List FactP} {b : Nat} {E : Obj} (h : ∀ f ∈ fs, OutP b E f) (j : Nat) : OutP b E (factP fs j) := by
  unfold factP
  rw [List.getD_eq_getElem?_getD]
  cases hj : fs[j]? with
  | none => exact out_v _ _ _
  | some f => exact h f (List.mem_of_getElem? hj)
theorem ent_below {w w' : World} {b : Nat} {E0 E1 : Obj} (h : w.heap[b]? = some E0 ∨ w.heap[b]? = some E1) (hb : Below w.heap.size w w') : w'.heap[b]? = some E0 ∨ w'.heap[b]? = some E1 :=
  h.imp (fun e => (hb.block b (Array.getElem?_eq_some_iff.1 e).1).trans e) (fun e => (hb.block b (Array.getElem?_eq_some_iff.1 e).1).trans e)

section
variable {Q : Exit → Act → World → Prop} {base : List (Tmp × Value)} {dsts : List (Option Tmp)} {S : World → Prop} {fs : List FactP} {i : Nat} {o : Oper}
/-- The stamp out of the entry. -/
theorem obt_stamp {d : Tmp} {b : Nat} {E : Obj} {u v : Value} (j : Nat) (ho : o.op = .extract (.tmp d) 1) (hf : factP fs i = isV v) (hg : o.guard = none) (h1 : dsts[j]? = some (some d)) (h2 : depT o j = true) (h3 : factP fs j = isB (.tuple #[u, v]) b E) : Obt Try.prog Q base dsts S fs i o :=
  fun a w hS hB hD K hK => by
    have hv : a.eval (.tmp d) = .tuple #[u, v] := by
      have := hD j d h1 h2
      rw [h3] at this; exact this.1
    refine ⟨.inl hg, run_value v ?_ (hK _ _ hS (fun j u h => h) (by rw [hf]; rfl))⟩
    unfold execOp
    simp only [ho, hv]
    go_simp
end
end Go.Proofs.Ytinhdcchfeokpaa
/-
  The frame behind a region that draws its order: the slots that the region writes, over the frame from before.
-/
namespace Go.Proofs.Ytinhdcchfeokpaa
open Go.RowKit

def ov (ks : List (Nat × Value)) : Nat → List Value → List Value
  | _, [] => []
  | i, x :: r => (match ks.lookup i with | some v => v | none => x) :: ov ks (i + 1) r
def KV (a' : Act) : List (Nat × Value) → Prop
  | [] => True
  | p :: r => a'.tmps.getD p.1 undef = p.2 ∧ KV a' r
theorem kv_lookup {a' : Act} : ∀ {ks : List (Nat × Value)}, KV a' ks → ∀ {i : Nat} {v : Value}, ks.lookup i = some v → a'.tmps.getD i undef = v
  | [], _, i, v, h => by simp at h
  | p :: r, hk, i, v, h => by
    rw [List.lookup_cons] at h
    by_cases e : i == p.1
    · rw [e] at h
      have e' := eq_of_beq e
      simp only [Option.some.injEq] at h
      subst h; subst e'
      exact hk.1
    · have e' : (i == p.1) = false := by simpa using e
      rw [e'] at h
      exact kv_lookup hk.2 h
theorem frameAt_ov {ops : Array Oper} {a a' : Act} {ks : List (Nat × Value)} (h3 : ∀ t, outside ops t = true → a'.tmps.getD t undef = a.tmps.getD t undef) (hv : KV a' ks) : ∀ (xs : List Value) (i : Nat),
    (∀ j, j < xs.length → outside ops (i + j) = true ∨ (ks.lookup (i + j)).isSome = true) → (∀ j, (h : j < xs.length) → a.tmps.getD (i + j) undef = xs[j]) → frameAt a' i (ov ks i xs)
  | [], _, _, _ => trivial
  | x :: r, i, ho, hx => by
    refine ⟨?_, ?_⟩
    · cases hl : ks.lookup i with
      | some v => exact kv_lookup hv hl
      | none =>
        rcases ho 0 (by simp) with h | h
        · rw [Nat.add_zero] at h
          rw [h3 i h]
          exact hx 0 (by simp)
        · rw [Nat.add_zero, hl] at h; cases h
    · refine frameAt_ov h3 hv r (i + 1) (fun j hj => ?_) (fun j hj => ?_)
      · have := ho (j + 1) (by simpa using hj)
        rwa [show i + (j + 1) = i + 1 + j by omega] at this
      · have := hx (j + 1) (by simpa using hj)
        rw [show i + (j + 1) = i + 1 + j by omega] at this
        simpa using this
theorem ov_len (ks : List (Nat × Value)) : ∀ (xs : List Value) (i : Nat), (ov ks i xs).length = xs.length
  | [], _ => rfl
  | _ :: r, i => by simp [ov, ov_len ks r]
theorem frame_ov {ops : Array Oper} {a a' : Act} {xs : List Value} {ds : List Deferred} (ha : a = ⟨xs.toArray, ds⟩) (h1 : a'.tmps.size = a.tmps.size) (h2 : a'.defers = a.defers) (h3 : ∀ t, outside ops t = true → a'.tmps.getD t undef = a.tmps.getD t undef)
    (ks : List (Nat × Value)) (hk : ((List.range xs.length).all fun t => outside ops t || (ks.map (·.1)).contains t) = true) (hv : KV a' ks) : a' = ⟨(ov ks 0 xs).toArray, ds⟩ := by
  subst ha
  refine frame_eq _ (by rw [h1, ov_len]; simp) h2 (frameAt_ov h3 hv xs 0 (fun j hj => ?_) fun j hj => ?_)
  · rw [Nat.zero_add]
    have := List.all_eq_true.1 hk j (List.mem_range.2 hj)
    rw [Bool.or_eq_true] at this
    rcases this with h | h
    · exact .inl h
    · right
      clear hk h1 h2 h3 hv
      induction ks with
      | nil => simp at h
      | cons p r ih =>
        rw [List.lookup_cons]
        by_cases e : j == p.1
        · rw [e]; rfl
        · have e' : (j == p.1) = false := by simpa using e
          rw [e']
          refine ih ?_
          simp only [List.map_cons, List.contains_cons, e', Bool.false_or] at h
          exact h
  · simp [hj]
theorem obt_assign {P : Program} {Q : Exit → Act → World → Prop} {base : List (Tmp × Value)} {dsts : List (Option Tmp)} {S : World → Prop} {fs : List FactP} {i : Nat} {o : Oper} {x : Operand} (v : Value) (ho : o.op = .assign x) (hf : factP fs i = isV v) (hg : o.guard = none) (hx : SrcT base dsts fs o x v) : Obt P Q base dsts S fs i o :=
  obt_run v hf hg fun a w _ hs => by unfold execOp; rw [ho]; simp only [hs x v hx]; rfl
/-- An operation whose one operand is what a forerunner has left, told by a fact. -/
theorem obt_from {P : Program} {Q : Exit → Act → World → Prop} {base : List (Tmp × Value)} {dsts : List (Option Tmp)} {S : World → Prop} {fs : List FactP} {i : Nat} {o : Oper} {d : Tmp} (j : Nat) (hg : o.guard = none) (h1 : dsts[j]? = some (some d)) (h2 : depT o j = true)
    (hr : ∀ (ρ : Operand → Value) (w : World) (u : Value), S w → ρ (.tmp d) = u → factP fs j u w → ∃ v, (execOp ρ o).run P w = .ok (.value v) w ∧ factP fs i v w) : Obt P Q base dsts S fs i o :=
  fun a w hS _ hD K hK => by
    obtain ⟨v, hv1, hv2⟩ := hr a.eval w _ hS rfl (hD j d h1 h2)
    exact ⟨.inl hg, run_value v hv1 (hK _ _ hS (fun _ _ h => h) hv2)⟩
theorem exec_moveV {P : Program} {ρ : Operand → Value} {o : Oper} {w : World} {x : Operand} {u : Value} (ho : o.op = .move x) (hx : ρ x = u) : (execOp ρ o).run P w = .ok (.value u) w := by
  unfold execOp; rw [ho]; simp only [hx]; rfl
theorem exec_assignV {P : Program} {ρ : Operand → Value} {o : Oper} {w : World} {x : Operand} {u : Value} (ho : o.op = .assign x) (hx : ρ x = u) : (execOp ρ o).run P w = .ok (.value u) w := by
  unfold execOp; rw [ho]; simp only [hx]; rfl
theorem exec_extract0 {P : Program} {ρ : Operand → Value} {o : Oper} {w : World} {x : Operand} {u v : Value} (ho : o.op = .extract x 0) (hx : ρ x = .tuple #[u, v]) : (execOp ρ o).run P w = .ok (.value u) w := by
  unfold execOp
  simp only [ho, hx]
  go_simp
theorem exec_extract1 {P : Program} {ρ : Operand → Value} {o : Oper} {w : World} {x : Operand} {u v : Value} (ho : o.op = .extract x 1) (hx : ρ x = .tuple #[u, v]) : (execOp ρ o).run P w = .ok (.value v) w := by
  unfold execOp
  simp only [ho, hx]
  go_simp
end Go.Proofs.Ytinhdcchfeokpaa
/-
  lineMapOf: the program's map of lines.
-/
namespace Go.Proofs.Ytinhdcchfeokpaa
open Go.RowKit Go.Maps
open Go.ChangeMaps (setBlock)

/-- Cell number i is black and lies on the line. -/
def onL (C : Nat) (f : Nat → Nat → Int) (d : Int × Int) (n : Int) (i : Nat) : Bool := f (i / C) (i % C) == 1 && lnum d.1 d.2 C (i / C : Nat) (i % C : Nat) == n
/-- What the first i cells give to a line, along d. -/
def lineC (C : Nat) (f : Nat → Nat → Int) (d : Int × Int) (i : Nat) (k : Key) : Int := if k.x = d.1 ∧ k.y = d.2 then (cnt (onL C f d k.n) i : Nat) else 0
def linesC (C : Nat) (f : Nat → Nat → Int) (N : Nat) (k : Key) : List (Int × Int) → Int
  | [] => 0
  | d :: r => lineC C f d N k + linesC C f N k r
theorem linesC_snoc (C : Nat) (f : Nat → Nat → Int) (N : Nat) (k : Key) (d : Int × Int) : ∀ l : List (Int × Int), linesC C f N k (l ++ [d]) = linesC C f N k l + lineC C f d N k
  | [] => by simp [linesC]
  | x :: l => by rw [List.cons_append, linesC, linesC, linesC_snoc C f N k d l]; omega
theorem lineC_range (C : Nat) (f : Nat → Nat → Int) (d : Int × Int) (i : Nat) (k : Key) : 0 ≤ lineC C f d i k ∧ lineC C f d i k ≤ i := by
  unfold lineC
  have := cnt_le (onL C f d k.n) i
  split <;> omega
theorem linesC_range (C : Nat) (f : Nat → Nat → Int) (N : Nat) (k : Key) : ∀ l : List (Int × Int), 0 ≤ linesC C f N k l ∧ linesC C f N k l ≤ N * l.length
  | [] => by simp [linesC]
  | d :: l => by
    have h1 := lineC_range C f d N k
    have h2 := linesC_range C f N k l
    have e : (N : Int) * ((l.length + 1 : Nat) : Int) = N * l.length + N := by rw [Int.natCast_add, Int.mul_add]; simp
    rw [linesC, List.length_cons, e]
    omega
/-- The directions lie one behind the other. -/
def InDirs (w : World) (v : Value) (ds : List (Int × Int)) : Prop :=
  ∃ g c, v = .slice (some ⟨g, 0, none⟩) ds.length c ∧ g < w.heap.size ∧ ∀ i, (h : i < ds.length) → w.cell? ⟨g, i * 2, none⟩ = some (.int .i64 ds[i].1) ∧ w.cell? ⟨g, i * 2 + 1, none⟩ = some (.int .i64 ds[i].2)
theorem inDirs_below {w w' : World} {v : Value} {ds : List (Int × Int)} (h : InDirs w v ds) (hb : Below w.heap.size w w') : InDirs w' v ds := by
  obtain ⟨g, c, hv, hg, hc⟩ := h
  exact ⟨g, c, hv, Nat.lt_of_lt_of_le hg hb.size, fun i hi => ⟨below_cell hb hg (hc i hi).1, below_cell hb hg (hc i hi).2⟩⟩
theorem onL_at {C : Nat} {f : Nat → Nat → Int} {d : Int × Int} {n : Int} {y x : Nat} (hx : x < C) : onL C f d n (C * y + x) = (f y x == 1 && lnum d.1 d.2 C y x == n) := by
  have h1 : (C * y + x) / C = y := by rw [Nat.mul_add_div (by omega), Nat.div_eq_of_lt hx]; omega
  have h2 : (C * y + x) % C = x := by rw [Nat.mul_add_mod, Nat.mod_eq_of_lt hx]
  rw [onL, h1, h2]
theorem lineC_white {C : Nat} {f : Nat → Nat → Int} {d : Int × Int} {y x : Nat} (hx : x < C) (h : f y x = 0) (k : Key) : lineC C f d (C * y + (x + 1)) k = lineC C f d (C * y + x) k := by
  have e : onL C f d k.n (C * y + x) = false := by rw [onL_at hx, h]; rfl
  unfold lineC
  rw [← Nat.add_assoc, cnt_no e]
theorem lineC_black {C : Nat} {f : Nat → Nat → Int} {d : Int × Int} {y x : Nat} (hx : x < C) (h : f y x = 1) (k : Key) :
    lineC C f d (C * y + (x + 1)) k = if k = ⟨d.1, d.2, lnum d.1 d.2 C y x⟩ then lineC C f d (C * y + x) k + 1 else lineC C f d (C * y + x) k := by
  obtain ⟨kx, ky, kn⟩ := k
  unfold lineC
  by_cases hk : kx = d.1 ∧ ky = d.2
  · rw [if_pos hk, if_pos hk, ← Nat.add_assoc]
    by_cases hn : lnum d.1 d.2 C y x = kn
    · have e : onL C f d kn (C * y + x) = true := by rw [onL_at hx, h, hn]; simp
      rw [cnt_yes e, if_pos (by rw [hn, hk.1, hk.2])]; simp
    · have e : onL C f d kn (C * y + x) = false := by rw [onL_at hx]; simp [hn]
      rw [cnt_no e, if_neg (fun h => hn (by cases h; rfl))]
  · rw [if_neg hk, if_neg hk, if_neg (fun h => hk (by cases h; exact ⟨rfl, rfl⟩))]

/-- The lines behind j directions and i cells of the next one. -/
def upL (C : Nat) (f : Nat → Nat → Int) (N : Nat) (ds : List (Int × Int)) (d : Int × Int) (i : Nat) (k : Key) : Int := linesC C f N k ds + lineC C f d i k
def thereK (F : Key → Int) (k : Key) : Bool := decide (F k ≠ 0)

/-- The sum of the first n numbers. -/
def sumF (v : Nat → Int) : Nat → Int
  | 0 => 0
  | n + 1 => sumF v n + v n
theorem sumF_congr {v u : Nat → Int} : ∀ {n : Nat}, (∀ i, i < n → v i = u i) → sumF v n = sumF u n
  | 0, _ => rfl
  | n + 1, h => by rw [sumF, sumF, sumF_congr fun i hi => h i (by omega), h n (by omega)]
theorem sumF_range {v : Nat → Int} : ∀ {n : Nat}, (∀ i, i < n → -100 ≤ v i ∧ v i ≤ 100) → -100 * (n : Int) ≤ sumF v n ∧ sumF v n ≤ 100 * (n : Int)
  | 0, _ => by simp [sumF]
  | n + 1, h => by
    have h1 := sumF_range (v := v) (n := n) fun i hi => h i (by omega)
    have h2 := h n (by omega)
    rw [sumF]; omega
/-- What cell number i gives to a line. -/
def elL (C : Nat) (f : Nat → Nat → Int) (d : Int × Int) (n : Int) (i : Nat) : Int := if lnum d.1 d.2 C (i / C : Nat) (i % C : Nat) = n then f (i / C) (i % C) else 0
def lineE (C : Nat) (f : Nat → Nat → Int) (d : Int × Int) (i : Nat) (k : Key) : Int := if k.x = d.1 ∧ k.y = d.2 then sumF (elL C f d k.n) i else 0
def linesE (C : Nat) (f : Nat → Nat → Int) (N : Nat) (k : Key) : List (Int × Int) → Int
  | [] => 0
  | d :: r => lineE C f d N k + linesE C f N k r
theorem linesE_snoc (C : Nat) (f : Nat → Nat → Int) (N : Nat) (k : Key) (d : Int × Int) : ∀ l : List (Int × Int), linesE C f N k (l ++ [d]) = linesE C f N k l + lineE C f d N k
  | [] => by simp [linesE]
  | x :: l => by rw [List.cons_append, linesE, linesE, linesE_snoc C f N k d l]; omega
theorem elL_at {C : Nat} {f : Nat → Nat → Int} {d : Int × Int} {n : Int} {y x : Nat} (hx : x < C) : elL C f d n (C * y + x) = if lnum d.1 d.2 C y x = n then f y x else 0 := by
  have h1 : (C * y + x) / C = y := by rw [Nat.mul_add_div (by omega), Nat.div_eq_of_lt hx]; omega
  have h2 : (C * y + x) % C = x := by rw [Nat.mul_add_mod, Nat.mod_eq_of_lt hx]
  rw [elL, h1, h2]
theorem lineE_zero {C : Nat} {f : Nat → Nat → Int} {d : Int × Int} {y x : Nat} (hx : x < C) (h : f y x = 0) (k : Key) : lineE C f d (C * y + (x + 1)) k = lineE C f d (C * y + x) k := by
  have e : elL C f d k.n (C * y + x) = 0 := by rw [elL_at hx, h]; split <;> rfl
  unfold lineE
  rw [← Nat.add_assoc, sumF, e, Int.add_zero]
theorem lineE_add {C : Nat} {f : Nat → Nat → Int} {d : Int × Int} {y x : Nat} (hx : x < C) (k : Key) :
    lineE C f d (C * y + (x + 1)) k = if k = ⟨d.1, d.2, lnum d.1 d.2 C y x⟩ then lineE C f d (C * y + x) k + f y x else lineE C f d (C * y + x) k := by
  obtain ⟨kx, ky, kn⟩ := k
  unfold lineE
  by_cases hk : kx = d.1 ∧ ky = d.2
  · rw [if_pos hk, if_pos hk, ← Nat.add_assoc, sumF, elL_at hx]
    by_cases hn : lnum d.1 d.2 C y x = kn
    · rw [if_pos hn, if_pos (by rw [hn, hk.1, hk.2])]
    · rw [if_neg hn, if_neg (fun h => hn (by cases h; rfl)), Int.add_zero]
  · rw [if_neg hk, if_neg hk, if_neg (fun h => hk (by cases h; exact ⟨rfl, rfl⟩))]
/-- A grid's elements are small. -/
def Small (R C : Nat) (f : Nat → Nat → Int) : Prop := ∀ y x, y < R → x < C → -100 ≤ f y x ∧ f y x ≤ 100
theorem cell_of {R C i : Nat} (hi : i < R * C) : i / C < R ∧ i % C < C := by
  have hC : 0 < C := Nat.pos_of_ne_zero fun h => by subst h; simp at hi
  exact ⟨Nat.div_lt_of_lt_mul (by rw [Nat.mul_comm]; exact hi), Nat.mod_lt i hC⟩
theorem lineE_range {R C i : Nat} {f : Nat → Nat → Int} (hf : Small R C f) (d : Int × Int) (hi : i ≤ R * C) (k : Key) : -100 * (i : Int) ≤ lineE C f d i k ∧ lineE C f d i k ≤ 100 * (i : Int) := by
  unfold lineE
  split
  · refine sumF_range fun j hj => ?_
    unfold elL
    obtain ⟨h1, h2⟩ := cell_of (Nat.lt_of_lt_of_le hj hi)
    have := hf _ _ h1 h2
    split <;> omega
  · omega
theorem linesE_range {R C : Nat} {f : Nat → Nat → Int} (hf : Small R C f) (h25 : R * C ≤ 25) (k : Key) : ∀ l : List (Int × Int), -2500 * (l.length : Int) ≤ linesE C f (R * C) k l ∧ linesE C f (R * C) k l ≤ 2500 * (l.length : Int)
  | [] => by simp [linesE]
  | d :: l => by
    have h1 := lineE_range hf d (Nat.le_refl (R * C)) k
    have h2 := linesE_range hf h25 k l
    rw [linesE, List.length_cons]
    omega
def upE (C : Nat) (f : Nat → Nat → Int) (N : Nat) (ds : List (Int × Int)) (d : Int × Int) (i : Nat) (k : Key) : Int := linesE C f N k ds + lineE C f d i k
/-- 1 for each element that is not 0. -/
def nzF (f : Nat → Nat → Int) (y x : Nat) : Int := if f y x = 0 then 0 else 1
theorem cnt_same {p q : Nat → Bool} : ∀ {n : Nat}, (∀ i, i < n → p i = q i) → cnt p n = cnt q n
  | 0, _ => rfl
  | n + 1, h => by
    have ih := cnt_same (p := p) (q := q) (n := n) fun i hi => h i (by omega)
    cases e : q n with
    | true => rw [cnt_yes e, cnt_yes (by rw [h n (by omega), e]), ih]
    | false => rw [cnt_no e, cnt_no (by rw [h n (by omega), e]), ih]
theorem sumF_cnt {v : Nat → Int} {p : Nat → Bool} : ∀ {n : Nat}, (∀ i, i < n → v i = if p i = true then 1 else 0) → sumF v n = (cnt p n : Nat)
  | 0, _ => rfl
  | n + 1, h => by
    have ih := sumF_cnt (v := v) (p := p) (n := n) fun i hi => h i (by omega)
    rw [sumF, ih, h n (by omega)]
    cases e : p n with
    | true => rw [cnt_yes e]; simp
    | false => rw [cnt_no e]; simp
theorem img_lineE {R C : Nat} {f : Nat → Nat → Int} (hI : Img R C f) (d : Int × Int) (k : Key) : lineE C f d (R * C) k = lineC C f d (R * C) k := by
  unfold lineE lineC
  rw [sumF_cnt (p := onL C f d k.n) fun i hi => ?_]
  obtain ⟨h1, h2⟩ := cell_of hi
  unfold elL onL
  rcases hI.cell _ _ h1 h2 with e | e <;> rw [e]
  · simp
  · by_cases hn : lnum d.1 d.2 C (i / C : Nat) (i % C : Nat) = k.n
    · rw [if_pos hn, hn]; simp
    · rw [if_neg hn, beq_eq_false_iff_ne.2 hn]; simp
theorem img_linesE {R C : Nat} {f : Nat → Nat → Int} (hI : Img R C f) (k : Key) : ∀ l : List (Int × Int), linesE C f (R * C) k l = linesC C f (R * C) k l
  | [] => rfl
  | d :: l => by rw [linesE, linesC, img_lineE hI, img_linesE hI k l]
theorem img_lineN {R C : Nat} {f : Nat → Nat → Int} (hI : Img R C f) (d : Int × Int) (k : Key) : lineC C (nzF f) d (R * C) k = lineC C f d (R * C) k := by
  unfold lineC
  rw [cnt_same (q := onL C f d k.n) fun i hi => ?_]
  obtain ⟨h1, h2⟩ := cell_of hi
  unfold onL nzF
  rcases hI.cell _ _ h1 h2 with e | e <;> rw [e] <;> rfl
theorem img_linesN {R C : Nat} {f : Nat → Nat → Int} (hI : Img R C f) (k : Key) : ∀ l : List (Int × Int), linesC C (nzF f) (R * C) k l = linesC C f (R * C) k l
  | [] => rfl
  | d :: l => by rw [linesC, linesC, img_lineN hI, img_linesN hI k l]
theorem img_small {R C : Nat} {f : Nat → Nat → Int} (hI : Img R C f) : Small R C f := fun y x hy hx => by rcases hI.cell y x hy hx with e | e <;> omega

theorem grown_step {a b c : World} {row : Nat} (h : Below a.heap.size a b) (hg : b.grownBy c (some row)) (hr : a.heap.size ≤ row) : Below a.heap.size a c := h.trans (grown_below hg (fun k hk => by cases hk; exact hr) h.size)
theorem key_wf {a b n : Int} (h1 : (Lit.int .i64 a).wf = true) (h2 : (Lit.int .i64 b).wf = true) (h3 : (Lit.int .i64 n).wf = true) : (⟨a, b, n⟩ : Key).wf := ⟨h1, h2, h3⟩

end Go.Proofs.Ytinhdcchfeokpaa
/-
  The list of a map's numbers: lineMap.list.
-/
namespace Go.Proofs.Ytinhdcchfeokpaa
open Go.RowKit Go.Maps
open Go.ChangeMaps (setBlock)
set_option maxRecDepth 100000

theorem rowF_ints (N : Nat) (f g : Nat → Int) (h : ∀ i, i < N → f i = g i) : ints (rowF N f) = ints (rowF N g) := by rw [rowF_congr h]
theorem zeros_rowF (N : Nat) : List.replicate N (Value.int .i64 0) = ints (rowF N fun _ => 0) := by
  apply List.ext_getElem
  · simp [ints, rowF]
  · intro i h1 h2; simp [ints, rowF]

def RowRes (N : Nat) (f : Nat → Int) (w : World) (e : Ending) (w' : World) : Prop := ∃ v, e = .returned v ∧ w'.ownsRow w.heap.size 3 1 v N (ints (rowF N f)) ∧ Below w.heap.size w w'
end Go.Proofs.Ytinhdcchfeokpaa
/-
  LineSums of the program.
-/
namespace Go.Proofs.Ytinhdcchfeokpaa
open Go.RowKit Go.Maps

theorem cnt_pos {p : Nat → Bool} {N : Nat} (h : cnt p N ≠ 0) : ∃ i, i < N ∧ p i = true := by
  induction N with
  | zero => exact absurd rfl h
  | succ N ih =>
    cases e : p N with
    | true => exact ⟨N, Nat.lt_succ_self _, e⟩
    | false =>
      rw [cnt_no e] at h
      obtain ⟨i, hi, hp⟩ := ih h
      exact ⟨i, Nat.lt_succ_of_lt hi, hp⟩
/-- The number of black cells on each line. -/
def lineRow (R C : Nat) (f : Nat → Nat → Int) (dx dy : Int) (N : Nat) : List Int := rowF N fun i => (cnt (onL C f (dx, dy) i) (R * C) : Nat)
theorem line_one {R C : Nat} {f : Nat → Nat → Int} {dx dy : Int} (i : Nat) : linesC C f (R * C) ⟨dx, dy, i⟩ [(dx, dy)] = (cnt (onL C f (dx, dy) i) (R * C) : Nat) := by
  simp [linesC, lineC]
theorem line_there {R C N : Nat} {f : Nat → Nat → Int} {dx dy : Int} (hn : Near dx dy) (hR : 1 ≤ R ∧ R ≤ 5) (hC : 1 ≤ C ∧ C ≤ 5) (hN : (N : Int) = countL R C dx dy) (k : Key) (h : thereK (fun k => linesC C f (R * C) k [(dx, dy)]) k = true) : (k.x = dx ∧ k.y = dy) ∧ 0 ≤ k.n ∧ k.n < N := by
  simp only [thereK, linesC, Int.add_zero, decide_eq_true_eq] at h
  unfold lineC at h
  by_cases e : k.x = dx ∧ k.y = dy
  · rw [if_pos e] at h
    obtain ⟨i, hi, hp⟩ := cnt_pos (p := onL C f (dx, dy) k.n) (N := R * C) (by omega)
    simp only [onL, Bool.and_eq_true, beq_iff_eq] at hp
    have hx := Nat.mod_lt i (show C > 0 by omega)
    have hy : i / C < R := Nat.div_lt_of_lt_mul (by rw [Nat.mul_comm]; exact hi)
    generalize i / C = Y at hp hy
    generalize i % C = X at hp hx
    obtain ⟨p1, p2, p3⟩ := lnum_range (rows := R) (cols := C) (y := Y) (x := X) hn (by omega) (by omega) (by omega) (by omega) (by omega) (by omega) (by omega) (by omega)
    refine ⟨e, by omega, ?_⟩
    rw [hN]; unfold countL; omega
  · rw [if_neg e] at h; exact absurd rfl h
theorem countL_size {R C : Nat} {dx dy : Int} (hn : Near dx dy) (hR : 1 ≤ R ∧ R ≤ 5) (hC : 1 ≤ C ∧ C ≤ 5) : ∃ N : Nat, (N : Int) = countL R C dx dy ∧ N ≤ 41 := by
  obtain ⟨p1, p2, -⟩ := lnum_range (rows := R) (cols := C) (y := (R : Int) - 1) (x := 0) hn (by omega) (by omega) (by omega) (by omega) (by omega) (by omega) (by omega) (by omega)
  obtain ⟨q1, q2, -⟩ := lnum_range (rows := R) (cols := C) (y := (R : Int) - 1) (x := (C : Int) - 1) hn (by omega) (by omega) (by omega) (by omega) (by omega) (by omega) (by omega) (by omega)
  refine ⟨(countL R C dx dy).toNat, ?_, ?_⟩ <;> unfold countL <;> omega
theorem countL_nat {R C : Nat} {f : Nat → Nat → Int} {dx dy : Int} (hn : Near dx dy) (hI : Img R C f) : ∃ N : Nat, (N : Int) = countL R C dx dy ∧ N ≤ 41 := countL_size hn ⟨hI.r1, hI.r2⟩ ⟨hI.c1, hI.c2⟩
/-- The sum of the elements on each line. -/
def lineRowE (R C : Nat) (f : Nat → Nat → Int) (dx dy : Int) (N : Nat) : List Int := rowF N fun i => sumF (elL C f (dx, dy) i) (R * C)
theorem line_oneE {R C : Nat} {f : Nat → Nat → Int} {dx dy : Int} (i : Nat) : linesE C f (R * C) ⟨dx, dy, i⟩ [(dx, dy)] = sumF (elL C f (dx, dy) i) (R * C) := by
  simp [linesE, lineE]
theorem lineRow_img {R C : Nat} {f : Nat → Nat → Int} (hI : Img R C f) (dx dy : Int) (N : Nat) : lineRowE R C f dx dy N = lineRow R C f dx dy N := rowF_congr fun i _ => by
  rw [← line_oneE, ← line_one, img_linesE hI]

end Go.Proofs.Ytinhdcchfeokpaa
/-
  Row sums and column sums as lists.
-/
namespace Go.Proofs.Ytinhdcchfeokpaa
open Go.RowKit

/-- The number of black cells in a row, in a column. -/
def rs (C : Nat) (f : Nat → Nat → Int) (y : Nat) : Nat := cnt (fun x => f y x == 1) C
def cs (R : Nat) (f : Nat → Nat → Int) (x : Nat) : Nat := cnt (fun y => f y x == 1) R
/-- The row sums. -/
def rowsL (R C : Nat) (f : Nat → Nat → Int) : List Int := rowF R fun y => (rs C f y : Nat)
theorem rs_cell {R C : Nat} {f : Nat → Nat → Int} (h : Img R C f) {y x : Nat} (hy : y < R) (hx : x < C) : ((cnt (fun x => f y x == 1) (x + 1) : Nat) : Int) = (cnt (fun x => f y x == 1) x : Nat) + f y x := by
  rcases h.cell y x hy hx with e | e
  · rw [cnt_no (by simp [e]), e]; simp
  · rw [cnt_yes (by simp [e]), e]; simp
end Go.Proofs.Ytinhdcchfeokpaa
/-
  Numbers of black cells by rows, by columns and by lines.
-/
namespace Go.Proofs.Ytinhdcchfeokpaa
open Go.RowKit

theorem cnt_add (p : Nat → Bool) (b : Nat) : ∀ C, cnt p (b + C) = cnt p b + cnt (fun x => p (b + x)) C
  | 0 => rfl
  | C + 1 => by
    have := cnt_add p b C
    rw [← Nat.add_assoc, cnt, cnt, this]; omega
theorem cnt_congr {p q : Nat → Bool} : ∀ {N : Nat}, (∀ i, i < N → p i = q i) → cnt p N = cnt q N
  | 0, _ => rfl
  | N + 1, h => by rw [cnt, cnt, cnt_congr fun i hi => h i (by omega), h N (by omega)]
theorem cnt_none {p : Nat → Bool} {N : Nat} (h : ∀ i, i < N → p i = false) : cnt p N = 0 := cnt_skip (k := 0) (Nat.zero_le _) fun i _ hi => h i hi
theorem cnt_only {p : Nat → Bool} {N j : Nat} (hj : j < N) (h : ∀ i, i < N → i ≠ j → p i = false) : cnt p N = if p j = true then 1 else 0 := by
  have h1 : cnt p N = cnt p (j + 1) := cnt_skip (by omega) fun i h1 h2 => h i h2 (by omega)
  have h2 : cnt p j = 0 := cnt_none fun i hi => h i (by omega) (by omega)
  rw [h1, cnt, h2]; omega
theorem lnum_row (C y x : Nat) : lnum 1 0 C y x = y := by simp [lnum, least]
theorem lnum_col (C y x : Nat) (hx : x < C) : lnum 0 1 C y x = (C : Int) - 1 - x := by unfold lnum least; omega
theorem cnt_rows (C : Nat) (f : Nat → Nat → Int) (n : Int) : ∀ Y : Nat, cnt (onL C f (1, 0) n) (C * Y) = if 0 ≤ n ∧ n < Y then rs C f n.toNat else 0
  | 0 => by rw [if_neg (by omega)]; rfl
  | Y + 1 => by
    have h1 : cnt (fun x => onL C f (1, 0) n (C * Y + x)) C = if n = Y then rs C f Y else 0 := by
      by_cases e : n = Y
      · rw [if_pos e]
        refine cnt_congr fun x hx => ?_
        rw [onL_at hx]
        simp only [lnum_row, e]; simp
      · rw [if_neg e]
        refine cnt_none fun x hx => ?_
        rw [onL_at hx]
        simp only [lnum_row]
        have : ((Y : Int) == n) = false := by simp; omega
        rw [this, Bool.and_false]
    rw [Nat.mul_succ, cnt_add, cnt_rows C f n Y, h1]
    by_cases e : n = Y
    · rw [if_pos e, if_neg (by omega), if_pos (by omega), Nat.zero_add]
      congr 1; omega
    · rw [if_neg e, Nat.add_zero]
      by_cases h : 0 ≤ n ∧ n < Y
      · rw [if_pos h, if_pos (by omega)]
      · rw [if_neg h, if_neg (by omega)]
theorem cnt_cols (C : Nat) (f : Nat → Nat → Int) (n : Int) : ∀ Y : Nat, cnt (onL C f (0, 1) n) (C * Y) = if 0 ≤ n ∧ n < C then cs Y f (C - 1 - n.toNat) else 0
  | 0 => by split <;> rfl
  | Y + 1 => by
    rw [Nat.mul_succ, cnt_add, cnt_cols C f n Y]
    by_cases h : 0 ≤ n ∧ n < C
    · rw [if_pos h, if_pos h]
      have hj : C - 1 - n.toNat < C := by omega
      have h1 : cnt (fun x => onL C f (0, 1) n (C * Y + x)) C = if (f Y (C - 1 - n.toNat) == 1) = true then 1 else 0 := by
        rw [cnt_only hj fun x hx hne => ?_]
        · have e : onL C f (0, 1) n (C * Y + (C - 1 - n.toNat)) = (f Y (C - 1 - n.toNat) == 1) := by
            rw [onL_at hj, lnum_col C Y _ hj]
            have : ((C : Int) - 1 - ((C - 1 - n.toNat : Nat) : Int) == n) = true := by simp; omega
            rw [this, Bool.and_true]
          simp only [e]
        · rw [onL_at hx, lnum_col C Y x hx]
          have : ((C : Int) - 1 - (x : Int) == n) = false := by simp; omega
          rw [this, Bool.and_false]
      rw [h1]; rfl
    · rw [if_neg h, if_neg h, Nat.zero_add]
      refine cnt_none fun x hx => ?_
      rw [onL_at hx, lnum_col C Y x hx]
      have : ((C : Int) - 1 - (x : Int) == n) = false := by simp; omega
      rw [this, Bool.and_false]
theorem lineRow_rows (R C : Nat) (f : Nat → Nat → Int) : lineRow R C f 1 0 R = rowsL R C f := rowF_congr fun i hi => by
  rw [Nat.mul_comm R C, cnt_rows, if_pos (by omega)]; rfl
theorem countL_rows (R C : Nat) : countL R C 1 0 = R := by unfold countL lnum least; omega
end Go.Proofs.Ytinhdcchfeokpaa
/-
  RowSums of the model.
-/
namespace Go.Proofs.Ytinhdcchfeokpaa
open Go.RowKit

set_option maxHeartbeats 400000 in
theorem specRowSums_no (v : Value) (m : List (List Int)) (w : World) (hin : InMat w v m) (h : okB m = false) :
    Calls Try.prog 23 #[v] w (IntsRes [] w) := by
  have HI := hide hin; have H := hide h
  clear hin h
  go_enter Try.func23, Try.ntmps23
  go_wp2_with ((with_reducible refine (specImageOk_any v m _ HI.out).mono ?_); rw [H.out]; rintro e w' ⟨rfl, rfl⟩)
  go_ret
  exact intsRes_nil (Below.refl _ _)
set_option maxHeartbeats 1000000 in
theorem specRowSums_yes (v : Value) (R C : Nat) (f : Nat → Nat → Int) (w : World) (hin : InMat w v (mkM R C f)) (hI : Img R C f) :
    Calls Try.prog 23 #[v] w (IntsRes (rowsL R C f) w) := by
  have HM := hide hin; have H := hide hI
  obtain ⟨g, o, cap, rfl, hg, hrow⟩ := inMat_img hin (by have := hI.r1; omega) (by have := hI.c1; omega)
  have HROW := hide hrow
  obtain ⟨r1, r2, c1, c2, -⟩ := hI
  clear hin hrow
  go_enter Try.func23, Try.ntmps23
  go_wp2_with ((with_reducible refine (specImageOk_any _ _ _ HM.out).mono ?_); rw [img_ok H.out]; rintro e w' ⟨rfl, rfl⟩)
  have HO0 : Hid ((w.alloc (.cells #[] 3)).ownsRow w.heap.size 3 1 (.slice (some ⟨w.heap.size, 0, none⟩) 0 0) 0 []) := hide (World.ownsRow_made (base := w.heap.size) w #[] 0 (Nat.le_refl _) (Nat.zero_le _) rfl)
  have HB0 := hide ((Below.refl w.heap.size w).alloc (Nat.le_refl _) (.cells #[] 3))
  go_loopw [3, 15] (fun s i wr => ∃ y : Nat, y ≤ R ∧ i = .int .i64 y ∧ wr.ownsRow w.heap.size 3 1 s y (ints (rowF y fun k => (rs C f k : Nat))) ∧ Below w.heap.size w wr) (fun _ i _ => R - (intOf i).toNat)
  case atStart => exact ⟨0, Nat.zero_le _, rfl, HO0.out, HB0.out⟩
  case round =>
    obtain ⟨y, hy, rfl, ho, hb⟩ := hrel
    have HB := hide hb
    obtain ⟨sa, sc, rfl⟩ := own_slice ho
    have HO := hide ho
    have hsz := hb.size
    clear ho hb
    by_cases hly : y < R
    · obtain ⟨g', o', c', hcr, hg', hcell⟩ := HROW.out y hly
      have hcr := below_cell HB.out hg hcr
      have HCELL := hide hcell
      clear hcell
      go_wp2
      go_loop [6, 21] (fun n i => ∃ x : Nat, x ≤ C ∧ i = .int .i64 x ∧ n = .int .i64 (cnt (fun x => f y x == 1) x : Nat)) (fun _ i => C - (intOf i).toNat)
      case atStart => exact ⟨0, Nat.zero_le _, rfl, rfl⟩
      case round =>
        obtain ⟨x, hx, rfl, rfl⟩ := hrel
        have hcl := cnt_le (fun x => f y x == 1) x
        by_cases hlx : x < C
        · have hcx := below_cell HB.out hg' (HCELL.out x hlx)
          have HST := hide (rs_cell H.out hly hlx)
          have hf : 0 ≤ f y x ∧ f y x ≤ 1 := by rcases H.out.cell y x hly hlx with e | e <;> rw [e] <;> decide
          obtain ⟨hf0, hf1⟩ := hf
          obtain ⟨z, hz⟩ : ∃ z, z = f y x := ⟨_, rfl⟩
          obtain ⟨q, hq⟩ : ∃ q, q = cnt (fun x => f y x == 1) x := ⟨_, rfl⟩
          rw [← hz] at hcx HST hf0 hf1
          rw [← hq] at HST hcl ⊢
          clear hz hq
          go_wp2
          go_round
          case rel => exact ⟨x + 1, by omega, by go_num, by rw [HST.out]⟩
          case measure => simp [intOf]; omega
        · obtain rfl : x = C := by omega
          obtain ⟨q, hq⟩ : ∃ q, q = cnt (fun z => f y z == 1) x := ⟨_, rfl⟩
          have HQ := hide (show q = rs x f y from hq)
          rw [← hq] at hcl ⊢
          clear hq
          go_wp2_with (at_builtin; refine wpList_push HO.out (.int .i64 q) (.int .i64 0) rfl _ _ rfl Try.underlying22 Try.infoInt rfl (by decide) rfl rfl rfl (by omega) (by omega) ?_; intro v' w6 hown1 hb1 hg1)
          go_roundw
          case rel =>
            refine ⟨y + 1, by omega, by go_num, ?_, HB.out.trans hb1⟩
            have e : ints (rowF (y + 1) fun k => ((rs x f k : Nat) : Int)) = ints (rowF y fun k => ((rs x f k : Nat) : Int)) ++ [.int .i64 q] := by
              rw [HQ.out]; simp [ints, rowF, List.range_succ]
            rw [e]; exact hown1
          case measure => simp [intOf]; omega
    · obtain rfl : y = R := by omega
      go_wp2
      go_ret
      exact ⟨_, rfl, by rw [rowsL, rowF_len]; exact HO.out, HB.out⟩
end Go.Proofs.Ytinhdcchfeokpaa
/-
  RowSums of both.
-/
namespace Go.Proofs.Ytinhdcchfeokpaa
open Go.RowKit

end Go.Proofs.Ytinhdcchfeokpaa
