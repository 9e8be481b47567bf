/-
  Texts of this claim, one behind the other: Obt, Line, LineOf, Sums, Conj, MostS.
-/
import Derived.Test.YtpfaaglaeholbaaGreatPackB
/-
  The operations of such a region, kind by kind.
-/
namespace Go.Proofs.YtpfaaglaeholbaaGreat
open Go.RowKit

/-- What an operand reads as: a slot from before, a slot of a forerunner, a constant. -/
def SrcT (base : List (Tmp × Value)) (dsts : List (Option Tmp)) (fs : List FactP) (o : Oper) (x : Operand) (v : Value) : Prop :=
  (∃ t, x = .tmp t ∧ base.lookup t = some v) ∨ (∃ j d, x = .tmp d ∧ dsts[j]? = some (some d) ∧ depT o j = true ∧ factP fs j = isV v) ∨ x = .const v
theorem srt_b {base : List (Tmp × Value)} {dsts : List (Option Tmp)} {fs : List FactP} {o : Oper} {v : Value} (t : Tmp) (h : base.lookup t = some v) : SrcT base dsts fs o (.tmp t) v := .inl ⟨t, rfl, h⟩
theorem srt_j {base : List (Tmp × Value)} {dsts : List (Option Tmp)} {fs : List FactP} {o : Oper} {v : Value} {d : Tmp} (j : Nat) (h1 : dsts[j]? = some (some d)) (h2 : depT o j = true) (h3 : factP fs j = isV v) : SrcT base dsts fs o (.tmp d) v := .inr (.inl ⟨j, d, rfl, h1, h2, h3⟩)
theorem srt_c {base : List (Tmp × Value)} {dsts : List (Option Tmp)} {fs : List FactP} {o : Oper} {v : Value} : SrcT base dsts fs o (.const v) v := .inr (.inr rfl)
def SrcsT (base : List (Tmp × Value)) (dsts : List (Option Tmp)) (fs : List FactP) (o : Oper) : List Operand → List Value → Prop
  | [], [] => True
  | x :: l, v :: r => SrcT base dsts fs o x v ∧ SrcsT base dsts fs o l r
  | _, _ => False
/-- A slot whose fact is no bare value. -/
def SlotT (dsts : List (Option Tmp)) (o : Oper) (j : Nat) (d : Tmp) : Prop := dsts[j]? = some (some d) ∧ depT o j = true

/-- A fact that stands while nothing that was there turns. -/
def StableP (f : FactP) : Prop := ∀ u w w', Below w.heap.size w w' → f u w → f u w'
theorem stable_v (v : Value) : StableP (isV v) := fun _ _ _ _ h => h
theorem stable_all {fs : List FactP} (h : ∀ f ∈ fs, StableP f) (j : Nat) : StableP (factP fs j) := by
  unfold factP
  rw [List.getD_eq_getElem?_getD]
  cases hj : fs[j]? with
  | none => exact stable_v _
  | some f => exact h f (List.mem_of_getElem? hj)

theorem run_value {P : Program} {Q : Exit → Act → World → Prop} {o : Oper} {a : Act} {w w' : World} {K : Act → World → Prop} (v : Value) (hr : (execOp a.eval o).run P w = .ok (.value v) w') (h : K (a.put o.dst v) w') : o.wp P a w K Q := by
  unfold Oper.wp; rw [hr]; exact h
theorem run_skip {P : Program} {Q : Exit → Act → World → Prop} {o : Oper} {a : Act} {w w' : World} {K : Act → World → Prop} (hr : (execOp a.eval o).run P w = .ok .skip w') (h : K (a.put o.dst undef) w') : o.wp P a w K Q := by
  unfold Oper.wp; rw [hr]; exact h
theorem run_call {P : Program} {Q : Exit → Act → World → Prop} {o : Oper} {a : Act} {w : World} {K : Act → World → Prop} {f : FuncId} {xs : Array Operand} {ts : Array TypeId} (ho : o.op = .call { callee := .value (.func f), args := xs, argTypes := ts })
    {fn : Func} (hfn : P.funcs[f]? = some fn) (hn : (fn.name == "runtime.NumGoroutine") = false) (hb : fn.body.isSome = true) (args : Array Value) (hx : xs.map a.eval = args) (h : Calls P f args w fun e w' => ∃ v, e = .returned v ∧ K (a.put o.dst v) w') : o.wp P a w K Q := by
  subst hx
  unfold Oper.wp
  have hf : a.eval (.func f) = .func (.func f) #[] #[] := rfl
  simp only [execOp, ho, resolve, hf, Deferred.ofValue]
  have hn' : ¬ fn.name = "runtime.NumGoroutine" := by simpa using hn
  have hb' : ¬ fn.body = none := by intro e; rw [e] at hb; cases hb
  simp [invoke, callFunc, Oper.upon, hfn, hn', hb', Result.andThen]
  refine Calls.mono h ?_
  rintro e w' ⟨v, rfl, hk⟩
  exact hk

section
variable {P : Program} {Q : Exit → Act → World → Prop} {base : List (Tmp × Value)} {dsts : List (Option Tmp)} {S : World → Prop} {fs : List FactP} {i : Nat} {o : Oper}
theorem srt_val {a : Act} {w : World} {x : Operand} {v : Value} (h : SrcT base dsts fs o x v) (hb : ∀ t v, base.lookup t = some v → a.tmps.getD t undef = v)
    (hd : ∀ j d, dsts[j]? = some (some d) → depT o j = true → factP fs j (a.tmps.getD d undef) w) : a.eval x = v := by
  rcases h with ⟨t, rfl, h⟩ | ⟨j, d, rfl, h1, h2, h3⟩ | rfl
  · exact hb t v h
  · have := hd j d h1 h2
    rw [h3] at this; exact this
  · rfl
theorem srts_val {a : Act} {w : World} (hB : ∀ t v, base.lookup t = some v → a.tmps.getD t undef = v) (hD : ∀ j d, dsts[j]? = some (some d) → depT o j = true → factP fs j (a.tmps.getD d undef) w) : ∀ (l : List Operand) (r : List Value), SrcsT base dsts fs o l r → l.map a.eval = r := fun l => by
  induction l with
  | nil => intro r h; cases r with
    | nil => rfl
    | cons v r => exact h.elim
  | cons x l ih => intro r h; cases r with
    | nil => exact h.elim
    | cons v r => rw [List.map_cons, srt_val h.1 hB hD, ih r h.2]

/-- An operation that yields v of what its operands read as, in whatever world meets S. -/
theorem obt_run (v : Value) (hf : factP fs i = isV v) (hg : o.guard = none) (hr : ∀ (ρ : Operand → Value) (w : World), S w → (∀ x u, SrcT base dsts fs o x u → ρ x = u) → (execOp ρ o).run P w = .ok (.value v) w) : Obt P Q base dsts S fs i o :=
  fun a w hS hB hD K hK => ⟨.inl hg, run_value v (hr a.eval w hS fun x u hx => srt_val hx hB hD) (hK _ _ hS (fun _ _ h => h) (by rw [hf]; rfl))⟩
theorem obt_move {x : Operand} (v : Value) (ho : o.op = .move x) (hf : factP fs i = isV v) (hg : o.guard = none) (hx : SrcT base dsts fs o x v) : Obt P Q base dsts S fs i o :=
  obt_run v hf hg fun a w _ hs => by unfold execOp; rw [ho]; simp only [hs x v hx]; rfl
theorem obt_none (v : Value) (hf : factP fs i = isV v) (hg : o.guard = none) (hr : ∀ (ρ : Operand → Value) (w : World), S w → (execOp ρ o).run P w = .ok (.value v) w) : Obt P Q base dsts S fs i o :=
  obt_run v hf hg fun ρ w hS _ => hr ρ w hS
theorem obt_one {x : Operand} {u : Value} (v : Value) (hf : factP fs i = isV v) (hg : o.guard = none) (hx : SrcT base dsts fs o x u) (hr : ∀ (ρ : Operand → Value) (w : World), S w → ρ x = u → (execOp ρ o).run P w = .ok (.value v) w) : Obt P Q base dsts S fs i o :=
  obt_run v hf hg fun ρ w hS hs => hr ρ w hS (hs x u hx)
theorem obt_two {x y : Operand} {u t : Value} (v : Value) (hf : factP fs i = isV v) (hg : o.guard = none) (hx : SrcT base dsts fs o x u) (hy' : SrcT base dsts fs o y t) (hr : ∀ (ρ : Operand → Value) (w : World), S w → ρ x = u → ρ y = t → (execOp ρ o).run P w = .ok (.value v) w) : Obt P Q base dsts S fs i o :=
  obt_run v hf hg fun ρ w hS hs => hr ρ w hS (hs x u hx) (hs y t hy')
/-- An operation that makes memory. -/
theorem obt_make (hst : ∀ f ∈ fs, StableP f) (hg : o.guard = none) (hr : ∀ (a : Act) (w : World), S w → (∀ x u, SrcT base dsts fs o x u → a.eval x = u) → ∃ v w', (execOp a.eval o).run P w = .ok (.value v) w' ∧ S w' ∧ Below w.heap.size w w' ∧ factP fs i v w') : Obt P Q base dsts S fs i o :=
  fun a w hS hB hD K hK => by
    obtain ⟨v, w', h1, h2, h3, h4⟩ := hr a w hS fun x u hx => srt_val hx hB hD
    exact ⟨.inl hg, run_value v h1 (hK _ _ h2 (fun j u h => stable_all hst j u _ _ h3 h) h4)⟩
/-- A call, its arguments all values. -/
theorem obt_call {f : FuncId} {xs : Array Operand} {ts : Array TypeId} {fn : Func} (hst : ∀ f ∈ fs, StableP f) (args : List Value) (ho : o.op = .call { callee := .value (.func f), args := xs, argTypes := ts }) (hfn : P.funcs[f]? = some fn) (hn : (fn.name == "runtime.NumGoroutine") = false) (hb : fn.body.isSome = true)
    (hg : o.guard = none) (hx : SrcsT base dsts fs o xs.toList args)
    (hc : ∀ w, S w → Calls P f args.toArray w fun e w' => ∃ v, e = .returned v ∧ S w' ∧ Below w.heap.size w w' ∧ factP fs i v w') : Obt P Q base dsts S fs i o :=
  fun a w hS hB hD K hK => ⟨.inl hg, run_call ho hfn hn hb args.toArray (by
    rw [← srts_val hB hD _ _ hx]; exact Array.toList_inj.1 (by simp)) ((hc w hS).mono fun e w' ⟨v, he, h1, h2, h3⟩ => ⟨v, he, hK _ _ h1 (fun j u h => stable_all hst j u _ _ h2 h) h3⟩)⟩
/-- A call of two arguments, the first of which a forerunner has made; .. the second of which. -/
theorem obt_call_l {f : FuncId} {d : Tmp} {y : Operand} {ts : Array TypeId} {fn : Func} {u : Value} (hst : ∀ f ∈ fs, StableP f) (j : Nat) (ho : o.op = .call { callee := .value (.func f), args := #[.tmp d, y], argTypes := ts }) (hfn : P.funcs[f]? = some fn) (hn : (fn.name == "runtime.NumGoroutine") = false) (hb : fn.body.isSome = true)
    (hg : o.guard = none) (h1 : dsts[j]? = some (some d)) (h2 : depT o j = true) (hx : SrcT base dsts fs o y u)
    (hc : ∀ v w, S w → factP fs j v w → Calls P f #[v, u] w fun e w' => ∃ r, e = .returned r ∧ S w' ∧ Below w.heap.size w w' ∧ factP fs i r w') : Obt P Q base dsts S fs i o :=
  fun a w hS hB hD K hK => ⟨.inl hg, run_call ho hfn hn hb #[a.tmps.getD d undef, u] (by
    have := srt_val hx hB hD
    simp only [List.map_toArray, List.map_cons, List.map_nil, this]; rfl) ((hc _ w hS (hD j d h1 h2)).mono fun e w' ⟨v, he, g1, g2, g3⟩ => ⟨v, he, hK _ _ g1 (fun j u h => stable_all hst j u _ _ g2 h) g3⟩)⟩
theorem obt_call_r {f : FuncId} {d : Tmp} {y : Operand} {ts : Array TypeId} {fn : Func} {u : Value} (hst : ∀ f ∈ fs, StableP f) (j : Nat) (ho : o.op = .call { callee := .value (.func f), args := #[y, .tmp d], argTypes := ts }) (hfn : P.funcs[f]? = some fn) (hn : (fn.name == "runtime.NumGoroutine") = false) (hb : fn.body.isSome = true)
    (hg : o.guard = none) (h1 : dsts[j]? = some (some d)) (h2 : depT o j = true) (hx : SrcT base dsts fs o y u)
    (hc : ∀ v w, S w → factP fs j v w → Calls P f #[u, v] w fun e w' => ∃ r, e = .returned r ∧ S w' ∧ Below w.heap.size w w' ∧ factP fs i r w') : Obt P Q base dsts S fs i o :=
  fun a w hS hB hD K hK => ⟨.inl hg, run_call ho hfn hn hb #[u, a.tmps.getD d undef] (by
    have := srt_val hx hB hD
    simp only [List.map_toArray, List.map_cons, List.map_nil, this]; rfl) ((hc _ w hS (hD j d h1 h2)).mono fun e w' ⟨v, he, g1, g2, g3⟩ => ⟨v, he, hK _ _ g1 (fun j u h => stable_all hst j u _ _ g2 h) g3⟩)⟩

/-- The last operation: an assignment of what a forerunner has left. -/
theorem tail_assign {last : Oper} {a' : Act} {w' : World} {x : Operand} {v : Value} (ho : last.op = .assign x) (hx : a'.eval x = v) (hq : Q .normal (a'.put last.dst v) w') (K : Act → World → Prop) (hK : ∀ v w2, Q .normal (a'.put last.dst v) w2 → K (a'.put last.dst v) w2) : last.wp P a' w' K Q :=
  run_value v (by unfold execOp; rw [ho]; simp only [hx]; rfl) (hK v w' hq)
/-- A frame that is written out. -/
def frameAt (a : Act) : Nat → List Value → Prop
  | _, [] => True
  | k, x :: r => a.tmps.getD k undef = x ∧ frameAt a (k + 1) r
theorem frameAt_get (a : Act) : ∀ (l : List Value) (k i : Nat) (x : Value), frameAt a k l → l[i]? = some x → a.tmps.getD (k + i) undef = x
  | [], k, i, x, _, h => by simp at h
  | y :: r, k, i, x, hf, h => by
    cases i with
    | zero => simp only [List.getElem?_cons_zero, Option.some.injEq] at h; subst h; exact hf.1
    | succ i =>
      simp only [List.getElem?_cons_succ] at h
      have := frameAt_get a r (k + 1) i x hf.2 h
      rwa [show k + 1 + i = k + (i + 1) by omega] at this
theorem frame_eq {a : Act} (l : List Value) {ds : List Deferred} (hs : a.tmps.size = l.length) (hd : a.defers = ds) (h : frameAt a 0 l) : a = ⟨l.toArray, ds⟩ := by
  obtain ⟨ts, df⟩ := a
  simp only at hs hd
  subst hd
  congr 1
  apply Array.ext
  · simpa using hs
  · intro i h1 h2
    have hl : l[i]? = some l[i] := List.getElem?_eq_getElem (by simpa using h2)
    have := frameAt_get _ l 0 i _ h hl
    rw [Nat.zero_add] at this
    simp only [Array.getD_eq_getD_getElem?, Array.getElem?_eq_getElem h1, Option.getD_some] at this
    rw [this]; simp
end
end Go.Proofs.YtpfaaglaeholbaaGreat
/-
  Line numbers: lineNumber, l03Least, LineOf of both.
-/
namespace Go.Proofs.YtpfaaglaeholbaaGreat
open Go.RowKit

def least (dy cols : Int) : Int := min 0 (-dy * (cols - 1))
/-- The number of a cell's line. -/
def lnum (dx dy cols y x : Int) : Int := dx * y - dy * x - least dy cols
structure Near (dx dy : Int) : Prop where
  x1 : 0 ≤ dx
  x2 : dx ≤ 3
  y1 : -3 ≤ dy
  y2 : dy ≤ 3
theorem near_of {dx dy : Int} (h : dirOk dx dy = true) : Near dx dy := by
  simp only [dirOk, Bool.and_eq_true, decide_eq_true_eq] at h
  obtain ⟨⟨⟨⟨h1, h2⟩, h3, h4⟩, -⟩, -⟩ := h
  exact ⟨h1, h2, h3, h4⟩
theorem mul_dx {a b : Int} (h1 : 0 ≤ a) (h2 : a ≤ 3) (h3 : 0 ≤ b) (h4 : b ≤ 5) : 0 ≤ a * b ∧ a * b ≤ 15 := by
  have : a = 0 ∨ a = 1 ∨ a = 2 ∨ a = 3 := by omega
  rcases this with rfl | rfl | rfl | rfl <;> omega
theorem mul_dy {a b : Int} (h1 : -3 ≤ a) (h2 : a ≤ 3) (h3 : 0 ≤ b) (h4 : b ≤ 5) : -15 ≤ a * b ∧ a * b ≤ 15 := by
  have : a = -3 ∨ a = -2 ∨ a = -1 ∨ a = 0 ∨ a = 1 ∨ a = 2 ∨ a = 3 := by omega
  rcases this with rfl | rfl | rfl | rfl | rfl | rfl | rfl <;> omega

set_option maxHeartbeats 400000 in
theorem lineNumber_any (dx dy cols y x : Int) (w : World) (hn : Near dx dy) (hc : 1 ≤ cols ∧ cols ≤ 5) (hy : 0 ≤ y ∧ y < 5) (hx : 0 ≤ x ∧ x < 5) :
    Calls Tryz.prog 75 #[.int .i64 cols, .agg #[.int .i64 dx, .int .i64 dy], .int .i64 y, .int .i64 x] w fun e w' => e = .returned (.int .i64 (lnum dx dy cols y x)) ∧ Below w.heap.size w w' := by
  obtain ⟨h1, h2, h3, h4⟩ := hn
  obtain ⟨h5, h6⟩ := hc
  obtain ⟨y1, y2⟩ := hy
  obtain ⟨x1, x2⟩ := hx
  obtain ⟨hm1, hm2⟩ := mul_dy (a := -dy) (b := cols - 1) (by omega) (by omega) (by omega) (by omega)
  obtain ⟨hp1, hp2⟩ := mul_dx h1 h2 y1 (by omega)
  obtain ⟨hq1, hq2⟩ := mul_dy h3 h4 x1 (by omega)
  have HL : Hid (lnum dx dy cols y x = dx * y - dy * x - min 0 (-dy * (cols - 1))) := hide rfl
  by_cases h : 0 ≤ -dy * (cols - 1)
  · have HR : Hid (lnum dx dy cols y x = dx * y - dy * x - 0) := hide (by rw [HL.out]; omega)
    go_enter Tryz.func75, Tryz.ntmps75
    go_wp2
    trace_state
    go_ret
    exact ⟨ret_int (by rw [HR.out]; omega), (Below.refl _ _).alloc (Nat.le_refl _) _⟩
  · have HR : Hid (lnum dx dy cols y x = dx * y - dy * x - (-dy * (cols - 1))) := hide (by rw [HL.out]; omega)
    go_enter Tryz.func75, Tryz.ntmps75
    go_wp2
    go_ret
    exact ⟨ret_int (by rw [HR.out]), (Below.refl _ _).alloc (Nat.le_refl _) _⟩
end Go.Proofs.YtpfaaglaeholbaaGreat
/-
  LineOf, of the model and of the program.
-/
namespace Go.Proofs.YtpfaaglaeholbaaGreat
open Go.RowKit

def sizeOk (r c : Int) : Bool := decide (1 ≤ r ∧ r ≤ 5) && decide (1 ≤ c ∧ c ≤ 5)
theorem sizeOk_yes {r c : Int} (h : sizeOk r c = true) : (1 ≤ r ∧ r ≤ 5) ∧ (1 ≤ c ∧ c ≤ 5) := by simpa [sizeOk] using h
theorem l03Size_any (r c : Int) (w : World) :
    Calls Tryz.prog 117 #[.int .i64 r, .int .i64 c] w fun e w' => e = .returned (.bool (sizeOk r c)) ∧ w = w' := by
  have HS : Hid (sizeOk r c = (decide (1 ≤ r ∧ r ≤ 5) && decide (1 ≤ c ∧ c ≤ 5))) := hide rfl
  by_cases h1 : 1 ≤ r ∧ r ≤ 5
  · have H1 := hide (decide_eq_true h1)
    clear h1
    go_enter Tryz.func117, Tryz.ntmps117
    go_wp2_with (first | (with_reducible refine (l01In_any r 1 5 _).mono ?_; rw [H1.out]; rintro e w' ⟨rfl, rfl⟩) | (with_reducible refine (l01In_any c 1 5 _).mono ?_; rintro e w' ⟨rfl, rfl⟩))
    go_ret
    exact ⟨ret_bool (by rw [HS.out, H1.out]; simp), rfl⟩
  · have H1 := hide (decide_eq_false h1)
    clear h1
    go_enter Tryz.func117, Tryz.ntmps117
    go_wp2_with (first | (with_reducible refine (l01In_any r 1 5 _).mono ?_; rw [H1.out]; rintro e w' ⟨rfl, rfl⟩))
    go_ret
    exact ⟨ret_bool (by rw [HS.out, H1.out]; rfl), rfl⟩

theorem sizesOk_any (r c dx dy : Int) (w : World) :
    Calls Tryz.prog 104 #[.int .i64 r, .int .i64 c, .agg #[.int .i64 dx, .int .i64 dy]] w fun e w' => e = .returned (.bool (sizeOk r c && dirOk dx dy)) ∧ Below w.heap.size w w' := by
  have HS : Hid (sizeOk r c = (decide (1 ≤ r ∧ r ≤ 5) && decide (1 ≤ c ∧ c ≤ 5))) := hide rfl
  by_cases h1 : 1 ≤ r ∧ r ≤ 5
  · have H1 := hide (decide_eq_true h1)
    clear h1
    by_cases h2 : 1 ≤ c ∧ c ≤ 5
    · have H2 := hide (decide_eq_true h2)
      clear h2
      go_enter Tryz.func104, Tryz.ntmps104
      go_wp2_with (first | (with_reducible refine (sideOk_any r _).mono ?_; rw [H1.out]; rintro e w' ⟨rfl, rfl⟩) | (with_reducible refine (sideOk_any c _).mono ?_; rw [H2.out]; rintro e w' ⟨rfl, rfl⟩) | (with_reducible refine (implDirectionOk_any dx dy _).mono ?_; rintro e w1 ⟨rfl, hb⟩; have HB := hide hb; clear hb))
      go_ret
      exact ⟨ret_bool (by rw [HS.out, H1.out, H2.out]; rfl), ((Below.refl _ _).alloc (Nat.le_refl _) _).trans (HB.out.mono (by simp))⟩
    · have H2 := hide (decide_eq_false h2)
      clear h2
      go_enter Tryz.func104, Tryz.ntmps104
      go_wp2_with (first | (with_reducible refine (sideOk_any r _).mono ?_; rw [H1.out]; rintro e w' ⟨rfl, rfl⟩) | (with_reducible refine (sideOk_any c _).mono ?_; rw [H2.out]; rintro e w' ⟨rfl, rfl⟩))
      go_ret
      exact ⟨ret_bool (by rw [HS.out, H1.out, H2.out]; rfl), (Below.refl _ _).alloc (Nat.le_refl _) _⟩
  · have H1 := hide (decide_eq_false h1)
    clear h1
    go_enter Tryz.func104, Tryz.ntmps104
    go_wp2_with (first | (with_reducible refine (sideOk_any r _).mono ?_; rw [H1.out]; rintro e w' ⟨rfl, rfl⟩))
    go_ret
    exact ⟨ret_bool (by rw [HS.out, H1.out]; rfl), (Below.refl _ _).alloc (Nat.le_refl _) _⟩

/-- A direction in a variable. -/
def DirAt (w : World) (g : Nat) (dx dy : Int) : Prop := w.heap[g]? = some (.cells #[.int .i64 dx, .int .i64 dy] 46 (0, 0))
theorem dirAt_below {w w' : World} {g : Nat} {dx dy : Int} (h : DirAt w g dx dy) (hb : Below w.heap.size w w') : DirAt w' g dx dy := by
  unfold DirAt; rw [hb.block g (Array.getElem?_eq_some_iff.1 h).1]; exact h
theorem Tryz.sizeDir : (Tryz.prog.info? 46).map (·.size) = some 2 := by kernel_rfl
theorem exec_loadDir {ρ : Operand → Value} {o : Oper} {w : World} {x : Operand} {g : Nat} {dx dy : Int} (ho : o.op = .load 46 x) (hx : ρ x = .pointer (some ⟨g, 0, none⟩)) (hd : DirAt w g dx dy) :
    (execOp ρ o).run Tryz.prog w = .ok (.value (.agg #[.int .i64 dx, .int .i64 dy])) w := by
  unfold execOp
  simp only [ho, hx, Instr.loadAt, Instr.sureAddr, Sem.run_bind, Sem.run_pure, Result.andThen_ok, run_loadVar_row w g _ _ _ _ _ hd Tryz.underlying46 rfl Tryz.sizeDir]
theorem exec_field0 {ρ : Operand → Value} {o : Oper} {w : World} {x : Operand} {g : Nat} (ho : o.op = .fieldAddr 46 x 0) (hx : ρ x = .pointer (some ⟨g, 0, none⟩)) : (execOp ρ o).run Tryz.prog w = .ok (.value (.pointer (some ⟨g, 0, none⟩))) w := by
  unfold execOp
  simp only [ho, hx]
  go_simp
theorem exec_field1 {ρ : Operand → Value} {o : Oper} {w : World} {x : Operand} {g : Nat} (ho : o.op = .fieldAddr 46 x 1) (hx : ρ x = .pointer (some ⟨g, 0, none⟩)) : (execOp ρ o).run Tryz.prog w = .ok (.value (.pointer (some ⟨g, 1, none⟩))) w := by
  unfold execOp
  simp only [ho, hx]
  go_simp
theorem exec_loadX {ρ : Operand → Value} {o : Oper} {w : World} {x : Operand} {g : Nat} {dx dy : Int} (ho : o.op = .load 3 x) (hx : ρ x = .pointer (some ⟨g, 0, none⟩)) (hd : DirAt w g dx dy) : (execOp ρ o).run Tryz.prog w = .ok (.value (.int .i64 dx)) w := by
  have hc : w.cell? ⟨g, 0, none⟩ = some (.int .i64 dx) := by rw [cell_of_row w g 0 _ _ _ hd]; rfl
  unfold execOp
  simp only [ho, hx]
  go_simp
theorem exec_loadY {ρ : Operand → Value} {o : Oper} {w : World} {x : Operand} {g : Nat} {dx dy : Int} (ho : o.op = .load 3 x) (hx : ρ x = .pointer (some ⟨g, 1, none⟩)) (hd : DirAt w g dx dy) : (execOp ρ o).run Tryz.prog w = .ok (.value (.int .i64 dy)) w := by
  have hc : w.cell? ⟨g, 1, none⟩ = some (.int .i64 dy) := by rw [cell_of_row w g 1 _ _ _ hd]; rfl
  unfold execOp
  simp only [ho, hx]
  go_simp

theorem set_get {ts : Array Value} {d n : Tmp} {v : Value} (hs : ts.size = n) (hd : d < n) : (ts.setIfInBounds d v).getD d undef = v := by
  have : d < ts.size := Nat.lt_of_lt_of_eq hd hs.symm
  simp [this]

/-- What LineOf returns. -/
def lineOf (rows cols dx dy y x : Int) : Int := if (sizeOk rows cols = true ∧ dirOk dx dy = true) ∧ (0 ≤ y ∧ y < rows) ∧ 0 ≤ x ∧ x < cols then lnum dx dy cols y x else -1
/-- A direction's variable is read whole. -/
theorem wpList_loadDir {ops : Array Oper} {rest : List Oper} {o : Oper} {a : Act} {Q : Exit → Act → World → Prop} {W : World} {g : Nat} {dx dy : Int} (hb : DirAt W g dx dy)
    (hgd : o.guard = none) (x : Operand) (ho : o.op = .load 46 x) (hx : a.eval x = .pointer (some ⟨g, 0, none⟩))
    (h : wpList Tryz.prog ops Q rest (a.put o.dst (.agg #[.int .i64 dx, .int .i64 dy])) W) : wpList Tryz.prog ops Q (o :: rest) a W :=
  wpList_load_row hgd _ x ho g hx _ _ (0, 0) _ hb Tryz.underlying46 rfl Tryz.sizeDir h
end Go.Proofs.YtpfaaglaeholbaaGreat
/-
  SumsOk, of the model and of the program.
-/
namespace Go.Proofs.YtpfaaglaeholbaaGreat
open Go.RowKit

def badB (most x : Int) : Bool := decide (x < 0) || decide (most < x)
theorem any_no {p : Int → Bool} {r : List Int} (h : ∀ i, (hi : i < r.length) → p r[i] = false) : r.any p = false := by
  rw [Bool.eq_false_iff]; intro e
  rw [List.any_eq_true] at e
  obtain ⟨x, hx, hp⟩ := e
  obtain ⟨i, hi, rfl⟩ := List.getElem_of_mem hx
  rw [h i hi] at hp; cases hp
theorem any_yes {p : Int → Bool} {r : List Int} (i : Nat) (hi : i < r.length) (h : p r[i] = true) : r.any p = true := List.any_eq_true.2 ⟨_, List.getElem_mem hi, h⟩

set_option maxHeartbeats 400000 in
theorem bad_any (x most : Int) (g : Nat) (w : World) (hc : w.cell? ⟨g, 0, none⟩ = some (.int .i64 most)) :
    Calls Tryz.prog 124 #[.int .i64 x, .pointer (some ⟨g, 0, none⟩)] w fun e w' => e = .returned (.bool (badB most x)) ∧ w = w' := by
  have HB : Hid (badB most x = (decide (x < 0) || decide (most < x))) := hide rfl
  by_cases h1 : x < 0
  · go_enter Tryz.func124, Tryz.ntmps124
    go_wp2
    go_ret
    exact ⟨ret_bool (by rw [HB.out]; simp [h1]), rfl⟩
  · go_enter Tryz.func124, Tryz.ntmps124
    go_wp2
    go_ret
    exact ⟨ret_bool (by rw [HB.out]; simp; omega), rfl⟩

def IdxRes (b : Bool) (w : World) (e : Ending) (w' : World) : Prop := ∃ i : Int, e = .returned (.int .i64 i) ∧ -1 ≤ i ∧ b = decide (0 ≤ i) ∧ w = w'
set_option maxHeartbeats 1000000 in
theorem indexFunc_any (v : Value) (r : List Int) (most : Int) (q : Nat) (w : World) (hin : InRow w v r) (hq : w.cell? ⟨q, 0, none⟩ = some (.int .i64 most)) :
    Calls Tryz.prog 137 #[v, .func (.func 124) #[] #[.pointer (some ⟨q, 0, none⟩)]] w (IdxRes (r.any (badB most)) w) := by
  obtain ⟨a, c, rfl, hm, hp⟩ := hin
  unfold maxLen at hm
  by_cases h0 : r.length = 0
  · have hr : r = [] := List.eq_nil_of_length_eq_zero h0
    subst hr
    clear hp h0 hm
    go_enter Tryz.func137, Tryz.ntmps137
    go_wp2
    go_loop [8] (fun i => i = .int .i64 0) (fun _ => 0)
    case atStart => rfl
    case round =>
      obtain rfl := hrel
      go_wp2
      go_ret
      exact ⟨-1, rfl, by omega, rfl, rfl⟩
  · obtain ⟨g, o, rfl, hg, hc⟩ := hp.resolve_left h0
    have HC := hide hc
    obtain ⟨n, hn⟩ : ∃ n, n = r.length := ⟨_, rfl⟩
    have HN := hide hn
    rw [← hn] at hm ⊢
    clear hp hc h0 hn
    go_enter Tryz.func137, Tryz.ntmps137
    go_wp2
    go_loop [8] (fun i => ∃ k : Nat, k ≤ n ∧ i = .int .i64 k ∧ ∀ t, (h : t < r.length) → t < k → badB most r[t] = false) (fun i => n - (intOf i).toNat)
    case atStart => exact ⟨0, Nat.zero_le _, rfl, fun t _ h => absurd h (Nat.not_lt_zero _)⟩
    case round =>
      obtain ⟨k, hk, rfl, hall⟩ := hrel
      have HA := hide hall
      clear hall
      by_cases hlt : k < n
      · have hk' : k < r.length := by rw [← HN.out]; exact hlt
        have hx := HC.out k hk'
        have HNO := hide (fun h => any_yes (p := badB most) k hk' h)
        have HST : Hid (badB most r[k] = false → ∀ t, (h : t < r.length) → t < k + 1 → badB most r[t] = false) := hide fun h t h1 ht => by
          by_cases e : t = k
          · subst e; exact h
          · exact HA.out t h1 (by omega)
        obtain ⟨x, hxx⟩ : ∃ x, x = r[k] := ⟨_, rfl⟩
        rw [← hxx] at hx HNO HST
        clear hxx
        cases e : badB most x with
        | true =>
          have HE := hide e
          have HF := hide (HNO.out e)
          clear e
          go_wp2_with (go_at_call 124; refine (bad_any _ most q _ hq).mono ?_; rw [HE.out]; rintro e w9 ⟨rfl, rfl⟩)
          go_ret
          exact ⟨k, rfl, by omega, by rw [HF.out]; simp, rfl⟩
        | false =>
          have HE := hide e
          have HST := hide (HST.out e)
          clear e
          go_wp2_with (go_at_call 124; refine (bad_any _ most q _ hq).mono ?_; rw [HE.out]; rintro e w9 ⟨rfl, rfl⟩)
          go_round
          case rel => exact ⟨k + 1, by omega, by go_num, HST.out⟩
          case measure => simp [intOf]; omega
      · have HY := hide (any_no (p := badB most) fun t h => HA.out t h (by have := HN.out; omega))
        go_wp2
        go_ret
        exact ⟨-1, rfl, by omega, by rw [HY.out]; rfl, rfl⟩

set_option maxHeartbeats 400000 in
theorem containsFunc_any (v : Value) (r : List Int) (most : Int) (q : Nat) (w : World) (hin : InRow w v r) (hq : w.cell? ⟨q, 0, none⟩ = some (.int .i64 most)) :
    Calls Tryz.prog 123 #[v, .func (.func 124) #[] #[.pointer (some ⟨q, 0, none⟩)]] w fun e w' => e = .returned (.bool (r.any (badB most))) ∧ w = w' := by
  have HI := hide hin; have HQ := hide hq
  clear hin hq
  go_enter Tryz.func123, Tryz.ntmps123
  go_wp2_with fail
  refine (indexFunc_any v r most q _ HI.out HQ.out).mono ?_
  rintro e w1 ⟨i, rfl, hi, hb, rfl⟩
  have HB := hide hb
  clear hb
  by_cases h : 0 ≤ i
  · go_wp2
    go_ret
    exact ⟨ret_bool (by rw [HB.out]; simp [h]), rfl⟩
  · go_wp2
    go_ret
    exact ⟨ret_bool (by rw [HB.out]), rfl⟩

theorem sumsInRange_any (v : Value) (r : List Int) (most : Int) (w : World) (hin : InRow w v r) :
    Calls Tryz.prog 106 #[v, .int .i64 most] w fun e w' => e = .returned (.bool (!r.any (badB most))) ∧ Below w.heap.size w w' := by
  have HB := hide ((Below.refl w.heap.size w).alloc (Nat.le_refl _) (.cells #[.int .i64 most] 3))
  have HI := hide (inRow_below hin HB.out)
  have HQ := hide (show (w.alloc (.cells #[.int .i64 most] 3)).cell? ⟨w.heap.size, 0, none⟩ = some (.int .i64 most) by simp [World.cell?_alloc_new])
  clear hin
  go_enter Tryz.func106, Tryz.ntmps106
  go_wp2_with fail
  refine (containsFunc_any v r most w.heap.size _ HI.out HQ.out).mono ?_
  rintro e w1 ⟨rfl, rfl⟩
  go_wp2
  go_ret
  exact ⟨rfl, HB.out⟩

theorem sum_snoc (r : List Int) (k : Nat) (h : k < r.length) : (r.take (k + 1)).sum = (r.take k).sum + r[k] := by
  rw [List.take_succ_eq_append_getElem h, List.sum_append]; simp
def SmallL (r : List Int) : Prop := r.length ≤ 5 ∧ ∀ i, (h : i < r.length) → 0 ≤ r[i] ∧ r[i] ≤ 5
theorem sum_small {r : List Int} (h : SmallL r) : ∀ k, k ≤ r.length → 0 ≤ (r.take k).sum ∧ (r.take k).sum ≤ 5 * k := by
  intro k
  induction k with
  | zero => intro _; simp
  | succ k ih =>
    intro hk
    have := ih (by omega)
    have := h.2 k (by omega)
    rw [sum_snoc r k (by omega)]; omega
set_option maxHeartbeats 400000 in
theorem totalOf_any (v : Value) (r : List Int) (w : World) (hin : InRow w v r) (hs : SmallL r) :
    Calls Tryz.prog 107 #[v] w fun e w' => e = .returned (.int .i64 r.sum) ∧ w = w' := by
  obtain ⟨a, c, rfl, hm, hp⟩ := hin
  unfold maxLen at hm
  have HS := hide hs
  by_cases h0 : r.length = 0
  · have hr : r = [] := List.eq_nil_of_length_eq_zero h0
    subst hr
    clear hp h0 hm hs
    go_enter Tryz.func107, Tryz.ntmps107
    go_wp2
    go_loop [3, 8] (fun s i => s = .int .i64 0 ∧ i = .int .i64 0) (fun _ _ => 0)
    case atStart => exact ⟨rfl, rfl⟩
    case round =>
      obtain ⟨rfl, rfl⟩ := hrel
      go_wp2
      go_ret
      exact ⟨rfl, rfl⟩
  · obtain ⟨g, o, rfl, hg, hc⟩ := hp.resolve_left h0
    have HC := hide hc
    have h5 := hs.1
    obtain ⟨n, hn⟩ : ∃ n, n = r.length := ⟨_, rfl⟩
    have HN := hide hn
    rw [← hn] at hm h5 ⊢
    clear hp hc h0 hn hs
    go_enter Tryz.func107, Tryz.ntmps107
    go_wp2
    go_loop [3, 8] (fun s i => ∃ k : Nat, k ≤ n ∧ i = .int .i64 k ∧ s = .int .i64 (r.take k).sum) (fun _ i => n - (intOf i).toNat)
    case atStart => exact ⟨0, Nat.zero_le _, rfl, rfl⟩
    case round =>
      obtain ⟨k, hk, rfl, rfl⟩ := hrel
      obtain ⟨b1, b2⟩ := sum_small HS.out k (by rw [← HN.out]; exact hk)
      by_cases hlt : k < n
      · have hk' : k < r.length := by rw [← HN.out]; exact hlt
        have hx := HC.out k hk'
        have HST := hide (sum_snoc r k hk')
        obtain ⟨b3, b4⟩ := HS.out.2 k hk'
        obtain ⟨x, hxx⟩ : ∃ x, x = r[k] := ⟨_, rfl⟩
        obtain ⟨S, hSS⟩ : ∃ S, S = (r.take k).sum := ⟨_, rfl⟩
        rw [← hxx] at hx HST b3 b4
        rw [← hSS] at HST b1 b2 ⊢
        clear hxx hSS
        go_wp2
        go_round
        case rel => exact ⟨k + 1, by omega, by go_num, by rw [HST.out]⟩
        case measure => simp [intOf]; omega
      · have HE : Hid ((r.take k).sum = r.sum) := hide (by rw [List.take_of_length_le (by have := HN.out; omega)])
        rw [HE.out]
        clear b1 b2
        go_wp2
        go_ret
        exact ⟨rfl, rfl⟩

set_option maxHeartbeats 400000 in
theorem l03Total_any (v : Value) (r : List Int) (w : World) (hin : InRow w v r) (hs : SmallL r) :
    Calls Tryz.prog 99 #[v] w fun e w' => e = .returned (.int .i64 r.sum) ∧ w = w' := by
  obtain ⟨a, c, rfl, hm, hp⟩ := hin
  unfold maxLen at hm
  have HS := hide hs
  by_cases h0 : r.length = 0
  · have hr : r = [] := List.eq_nil_of_length_eq_zero h0
    subst hr
    clear hp h0 hm hs
    go_enter Tryz.func99, Tryz.ntmps99
    go_wp2
    go_loop [3, 8] (fun s i => s = .int .i64 0 ∧ i = .int .i64 0) (fun _ _ => 0)
    case atStart => exact ⟨rfl, rfl⟩
    case round =>
      obtain ⟨rfl, rfl⟩ := hrel
      go_wp2
      go_ret
      exact ⟨rfl, rfl⟩
  · obtain ⟨g, o, rfl, hg, hc⟩ := hp.resolve_left h0
    have HC := hide hc
    have h5 := hs.1
    obtain ⟨n, hn⟩ : ∃ n, n = r.length := ⟨_, rfl⟩
    have HN := hide hn
    rw [← hn] at hm h5 ⊢
    clear hp hc h0 hn hs
    go_enter Tryz.func99, Tryz.ntmps99
    go_wp2
    go_loop [3, 8] (fun s i => ∃ k : Nat, k ≤ n ∧ i = .int .i64 k ∧ s = .int .i64 (r.take k).sum) (fun _ i => n - (intOf i).toNat)
    case atStart => exact ⟨0, Nat.zero_le _, rfl, rfl⟩
    case round =>
      obtain ⟨k, hk, rfl, rfl⟩ := hrel
      obtain ⟨b1, b2⟩ := sum_small HS.out k (by rw [← HN.out]; exact hk)
      by_cases hlt : k < n
      · have hk' : k < r.length := by rw [← HN.out]; exact hlt
        have hx := HC.out k hk'
        have HST := hide (sum_snoc r k hk')
        obtain ⟨b3, b4⟩ := HS.out.2 k hk'
        obtain ⟨x, hxx⟩ : ∃ x, x = r[k] := ⟨_, rfl⟩
        obtain ⟨S, hSS⟩ : ∃ S, S = (r.take k).sum := ⟨_, rfl⟩
        rw [← hxx] at hx HST b3 b4
        rw [← hSS] at HST b1 b2 ⊢
        clear hxx hSS
        go_wp2
        go_round
        case rel => exact ⟨k + 1, by omega, by go_num, by rw [HST.out]⟩
        case measure => simp [intOf]; omega
      · have HE : Hid ((r.take k).sum = r.sum) := hide (by rw [List.take_of_length_le (by have := HN.out; omega)])
        rw [HE.out]
        clear b1 b2
        go_wp2
        go_ret
        exact ⟨rfl, rfl⟩

/-- What SumsOk returns. -/
def sumsOk (r c : List Int) : Bool := sizeOk r.length c.length && !r.any (badB c.length) && !c.any (badB r.length) && r.sum == c.sum
theorem small_of {r : List Int} {m : Int} (hl : r.length ≤ 5) (hm : m ≤ 5) (h : r.any (badB m) = false) : SmallL r := by
  refine ⟨hl, fun i hi => ?_⟩
  rw [List.any_eq_false] at h
  have := h _ (List.getElem_mem hi)
  simp only [badB, Bool.or_eq_true, decide_eq_true_eq, not_or] at this
  omega
set_option maxHeartbeats 1000000 in
theorem implSumsOk_any (va vb : Value) (r c : List Int) (w : World) (ha : InRow w va r) (hb : InRow w vb c) :
    Calls Tryz.prog 64 #[va, vb] w fun e w' => e = .returned (.bool (sumsOk r c)) ∧ Below w.heap.size w w' := by
  obtain ⟨a, ca, rfl, hma, hpa⟩ := ha
  obtain ⟨b, cb, rfl, hmb, hpb⟩ := hb
  have HA : Hid (InRow w (.slice a r.length ca) r) := hide ⟨a, ca, rfl, hma, hpa⟩
  have HB : Hid (InRow w (.slice b c.length cb) c) := hide ⟨b, cb, rfl, hmb, hpb⟩
  clear hpa hpb
  unfold maxLen at hma hmb
  obtain ⟨R, hR⟩ : ∃ R, R = r.length := ⟨_, rfl⟩
  obtain ⟨C, hC⟩ : ∃ C, C = c.length := ⟨_, rfl⟩
  have HRR := hide hR; have HCC := hide hC
  have HS : Hid (sumsOk r c = (decide ((1 : Int) ≤ R ∧ (R : Int) ≤ 5) && decide ((1 : Int) ≤ C ∧ (C : Int) ≤ 5) && !r.any (badB C) && !c.any (badB R) && r.sum == c.sum)) := hide (by rw [sumsOk, sizeOk, hR, hC])
  rw [← hR] at HA hma ⊢
  rw [← hC] at HB hmb ⊢
  rw [HS.out]
  by_cases h1 : 1 ≤ R ∧ R ≤ 5
  · have H1 : Hid (decide ((1 : Int) ≤ R ∧ (R : Int) ≤ 5) = true) := hide (decide_eq_true (by omega))
    rw [H1.out]
    by_cases h2 : 1 ≤ C ∧ C ≤ 5
    · have H2 : Hid (decide ((1 : Int) ≤ C ∧ (C : Int) ≤ 5) = true) := hide (decide_eq_true (by omega))
      rw [H2.out]
      cases h3 : r.any (badB C) with
      | true =>
        have H3 := hide h3
        clear hR hC h3
        go_enter Tryz.func64, Tryz.ntmps64
        go_wp2_with (first | (with_reducible refine (sideOk_any (R : Int) _).mono ?_; rw [H1.out]; rintro e w' ⟨rfl, rfl⟩) | (with_reducible refine (sideOk_any (C : Int) _).mono ?_; rw [H2.out]; rintro e w' ⟨rfl, rfl⟩) | ((with_reducible refine (sumsInRange_any _ r (C : Int) _ HA.out).mono ?_); rw [H3.out]; rintro e w1 ⟨rfl, b1⟩; have B1 := hide b1; clear b1))
        go_ret
        exact ⟨rfl, B1.out⟩
      | false =>
        have HSA := hide (small_of (m := C) (by rw [← hR]; exact h1.2) (by omega) h3)
        have H3 := hide h3
        cases h4 : c.any (badB R) with
        | true =>
          have H4 := hide h4
          clear hR hC h3 h4
          go_enter Tryz.func64, Tryz.ntmps64
          go_wp2_with (first | (with_reducible refine (sideOk_any (R : Int) _).mono ?_; rw [H1.out]; rintro e w' ⟨rfl, rfl⟩) | (with_reducible refine (sideOk_any (C : Int) _).mono ?_; rw [H2.out]; rintro e w' ⟨rfl, rfl⟩) | ((with_reducible refine (sumsInRange_any _ r (C : Int) _ HA.out).mono ?_); rw [H3.out]; rintro e w1 ⟨rfl, b1⟩; have B1 := hide b1; clear b1) | ((with_reducible refine (sumsInRange_any _ c (R : Int) _ (inRow_below HB.out B1.out)).mono ?_); rw [H4.out]; rintro e w2 ⟨rfl, b2⟩; have B2 := hide (B1.out.trans (b2.mono B1.out.size)); clear b2))
          go_ret
          exact ⟨rfl, B2.out⟩
        | false =>
          have HSB := hide (small_of (m := R) (by rw [← hC]; exact h2.2) (by omega) h4)
          have H4 := hide h4
          clear hR hC h3 h4
          obtain ⟨p1, p2⟩ := sum_small HSA.out r.length (Nat.le_refl _)
          obtain ⟨q1, q2⟩ := sum_small HSB.out c.length (Nat.le_refl _)
          rw [List.take_length] at p1 p2 q1 q2
          have TA := fun w hw => totalOf_any (.slice a R ca) r w hw HSA.out
          have TB := fun w hw => totalOf_any (.slice b C cb) c w hw HSB.out
          obtain ⟨X, hX⟩ : ∃ X, X = r.sum := ⟨_, rfl⟩
          obtain ⟨Y, hY⟩ : ∃ Y, Y = c.sum := ⟨_, rfl⟩
          rw [← hX] at TA p1 p2 ⊢
          rw [← hY] at TB q1 q2 ⊢
          have TA := hide TA; have TB := hide TB
          clear hX hY
          go_enter Tryz.func64, Tryz.ntmps64
          go_wp2_with (first | (with_reducible refine (sideOk_any (R : Int) _).mono ?_; rw [H1.out]; rintro e w' ⟨rfl, rfl⟩) | (with_reducible refine (sideOk_any (C : Int) _).mono ?_; rw [H2.out]; rintro e w' ⟨rfl, rfl⟩) | ((with_reducible refine (sumsInRange_any _ r (C : Int) _ HA.out).mono ?_); rw [H3.out]; rintro e w1 ⟨rfl, b1⟩; have B1 := hide b1; clear b1) | ((with_reducible refine (sumsInRange_any _ c (R : Int) _ (inRow_below HB.out B1.out)).mono ?_); rw [H4.out]; rintro e w2 ⟨rfl, b2⟩; have B2 := hide (B1.out.trans (b2.mono B1.out.size)); clear b2) | ((with_reducible refine (TA.out _ (inRow_below HA.out B2.out)).mono ?_); rintro e w' ⟨rfl, rfl⟩) | ((with_reducible refine (TB.out _ (inRow_below HB.out B2.out)).mono ?_); rintro e w' ⟨rfl, rfl⟩))
          go_ret
          exact ⟨ret_bool (by simp), B2.out⟩
    · have H2 : Hid (decide ((1 : Int) ≤ C ∧ (C : Int) ≤ 5) = false) := hide (decide_eq_false (by omega))
      rw [H2.out]
      clear hR hC h1 h2
      go_enter Tryz.func64, Tryz.ntmps64
      go_wp2_with (first | (with_reducible refine (sideOk_any (R : Int) _).mono ?_; rw [H1.out]; rintro e w' ⟨rfl, rfl⟩) | (with_reducible refine (sideOk_any (C : Int) _).mono ?_; rw [H2.out]; rintro e w' ⟨rfl, rfl⟩))
      go_ret
      exact ⟨rfl, Below.refl _ _⟩
  · have H1 : Hid (decide ((1 : Int) ≤ R ∧ (R : Int) ≤ 5) = false) := hide (decide_eq_false (by omega))
    rw [H1.out]
    clear hR hC h1
    go_enter Tryz.func64, Tryz.ntmps64
    go_wp2_with (first | (with_reducible refine (sideOk_any (R : Int) _).mono ?_; rw [H1.out]; rintro e w' ⟨rfl, rfl⟩))
    go_ret
    exact ⟨rfl, Below.refl _ _⟩

theorem bad_in (m x : Int) : decide (0 ≤ x ∧ x ≤ m) = !badB m x := by
  unfold badB
  by_cases h : 0 ≤ x ∧ x ≤ m
  · rw [decide_eq_true h, decide_eq_false (by omega), decide_eq_false (by omega)]; rfl
  · rw [decide_eq_false h]
    by_cases h1 : x < 0
    · rw [decide_eq_true h1]; rfl
    · rw [decide_eq_false h1, decide_eq_true (by omega : m < x)]; rfl
set_option maxHeartbeats 1000000 in
theorem specSumsOk_yes (a b : Option Addr) (ca cb : Nat) (r c : List Int) (w : World) (HA : Hid (InRow w (.slice a r.length ca) r)) (HB : Hid (InRow w (.slice b c.length cb) c)) (h1 : 1 ≤ r.length ∧ r.length ≤ 5) (h2 : 1 ≤ c.length ∧ c.length ≤ 5) :
    Calls Tryz.prog 91 #[.slice a r.length ca, .slice b c.length cb] w fun e w' => e = .returned (.bool (sumsOk r c)) ∧ Below w.heap.size w w' := by
  obtain ⟨a', ca', he, hma, hpa⟩ := HA.out
  obtain ⟨b', cb', he2, hmb, hpb⟩ := HB.out
  cases he; cases he2
  obtain ⟨ga, oa, rfl, hga, hca⟩ := hpa.resolve_left (by omega)
  obtain ⟨gb, ob, rfl, hgb, hcb⟩ := hpb.resolve_left (by omega)
  have HCA := hide hca; have HCB := hide hcb
  clear hpa hpb hca hcb
  unfold maxLen at hma hmb
  obtain ⟨R, hR⟩ : ∃ R, R = r.length := ⟨_, rfl⟩
  obtain ⟨C, hC⟩ : ∃ C, C = c.length := ⟨_, rfl⟩
  have HRR := hide hR; have HCC := hide hC
  have HS : Hid (sumsOk r c = (!r.any (badB C) && !c.any (badB R) && r.sum == c.sum)) := hide (by
    rw [sumsOk, sizeOk, hR, hC, decide_eq_true (show (1 : Int) ≤ r.length ∧ (r.length : Int) ≤ 5 by omega), decide_eq_true (show (1 : Int) ≤ c.length ∧ (c.length : Int) ≤ 5 by omega)]; simp)
  rw [← hR] at HA hma h1 ⊢
  rw [← hC] at HB hmb h2 ⊢
  have HZ : Hid (sizeOk R C = true) := hide (by rw [sizeOk, decide_eq_true (show (1 : Int) ≤ R ∧ (R : Int) ≤ 5 by omega), decide_eq_true (show (1 : Int) ≤ C ∧ (C : Int) ≤ 5 by omega)]; rfl)
  obtain ⟨h11, h12⟩ := h1
  obtain ⟨h21, h22⟩ := h2
  clear hR hC
  go_enter Tryz.func91, Tryz.ntmps91
  go_wp2_with (with_reducible refine (l03Size_any (R : Int) (C : Int) _).mono ?_; rw [HZ.out]; rintro e w' ⟨rfl, rfl⟩)
  go_loop [17] (fun i => ∃ k : Nat, k ≤ R ∧ i = .int .i64 k ∧ ∀ t, (h : t < r.length) → t < k → badB C r[t] = false) (fun i => R - (intOf i).toNat)
  case atStart => exact ⟨0, Nat.zero_le _, rfl, fun t _ h => absurd h (Nat.not_lt_zero _)⟩
  case round =>
    obtain ⟨k, hk, rfl, hall⟩ := hrel
    have HALL := hide hall
    clear hall
    by_cases hlt : k < R
    · have hk' : k < r.length := by rw [← HRR.out]; exact hlt
      have hx := HCA.out k hk'
      have HNO := hide (fun h => any_yes (p := badB C) k hk' h)
      have HST : Hid (badB C r[k] = false → ∀ t, (h : t < r.length) → t < k + 1 → badB C r[t] = false) := hide fun h t h1 ht => by
        by_cases e : t = k
        · subst e; exact h
        · exact HALL.out t h1 (by omega)
      obtain ⟨x, hxx⟩ : ∃ x, x = r[k] := ⟨_, rfl⟩
      rw [← hxx] at hx HNO HST
      clear hxx
      have HBI := hide (bad_in C x)
      cases e : badB C x with
      | true =>
        have HE : Hid (decide (0 ≤ x ∧ x ≤ (C : Int)) = false) := hide (by rw [HBI.out, e]; rfl)
        have HF : Hid (sumsOk r c = false) := hide (by rw [HS.out, HNO.out e]; rfl)
        clear e
        go_wp2_with (with_reducible refine (l01In_any x 0 (C : Int) _).mono ?_; rw [HE.out]; rintro e w' ⟨rfl, rfl⟩)
        go_ret
        exact ⟨ret_bool HF.out.symm, Below.refl _ _⟩
      | false =>
        have HE : Hid (decide (0 ≤ x ∧ x ≤ (C : Int)) = true) := hide (by rw [HBI.out, e]; rfl)
        have HST := hide (HST.out e)
        clear e
        go_wp2_with (with_reducible refine (l01In_any x 0 (C : Int) _).mono ?_; rw [HE.out]; rintro e w' ⟨rfl, rfl⟩)
        go_round
        case rel => exact ⟨k + 1, by omega, by go_num, HST.out⟩
        case measure => simp [intOf]; omega
    · have HY := hide (any_no (p := badB C) fun t h => HALL.out t h (by have := HRR.out; omega))
      clear HALL
      go_wp2
      go_loop [29] (fun i => ∃ k : Nat, k ≤ C ∧ i = .int .i64 k ∧ ∀ t, (h : t < c.length) → t < k → badB R c[t] = false) (fun i => C - (intOf i).toNat)
      case atStart => exact ⟨0, Nat.zero_le _, rfl, fun t _ h => absurd h (Nat.not_lt_zero _)⟩
      case round =>
        obtain ⟨j, hj, rfl, hall⟩ := hrel
        have HALL := hide hall
        clear hall
        by_cases hltj : j < C
        · have hk' : j < c.length := by rw [← HCC.out]; exact hltj
          have hx := HCB.out j hk'
          have HNO := hide (fun h => any_yes (p := badB R) j hk' h)
          have HST : Hid (badB R c[j] = false → ∀ t, (h : t < c.length) → t < j + 1 → badB R c[t] = false) := hide fun h t h1 ht => by
            by_cases e : t = j
            · subst e; exact h
            · exact HALL.out t h1 (by omega)
          obtain ⟨x, hxx⟩ : ∃ x, x = c[j] := ⟨_, rfl⟩
          rw [← hxx] at hx HNO HST
          clear hxx
          have HBI := hide (bad_in R x)
          cases e : badB R x with
          | true =>
            have HE : Hid (decide (0 ≤ x ∧ x ≤ (R : Int)) = false) := hide (by rw [HBI.out, e]; rfl)
            have HF : Hid (sumsOk r c = false) := hide (by rw [HS.out, HY.out, HNO.out e]; rfl)
            clear e
            go_wp2_with (with_reducible refine (l01In_any x 0 (R : Int) _).mono ?_; rw [HE.out]; rintro e w' ⟨rfl, rfl⟩)
            go_ret
            exact ⟨ret_bool HF.out.symm, Below.refl _ _⟩
          | false =>
            have HE : Hid (decide (0 ≤ x ∧ x ≤ (R : Int)) = true) := hide (by rw [HBI.out, e]; rfl)
            have HST := hide (HST.out e)
            clear e
            go_wp2_with (with_reducible refine (l01In_any x 0 (R : Int) _).mono ?_; rw [HE.out]; rintro e w' ⟨rfl, rfl⟩)
            go_round
            case rel => exact ⟨j + 1, by omega, by go_num, HST.out⟩
            case measure => simp [intOf]; omega
        · have HY2 := hide (any_no (p := badB R) fun t h => HALL.out t h (by have := HCC.out; omega))
          clear HALL
          have HSA := hide (small_of (m := C) (by rw [← HRR.out]; exact h12) (by omega) HY.out)
          have HSB := hide (small_of (m := R) (by rw [← HCC.out]; exact h22) (by omega) HY2.out)
          obtain ⟨p1, p2⟩ := sum_small HSA.out r.length (Nat.le_refl _)
          obtain ⟨q1, q2⟩ := sum_small HSB.out c.length (Nat.le_refl _)
          rw [List.take_length] at p1 p2 q1 q2
          have TA := fun w hw => l03Total_any (.slice (some ⟨ga, oa, none⟩) R ca) r w hw HSA.out
          have TB := fun w hw => l03Total_any (.slice (some ⟨gb, ob, none⟩) C cb) c w hw HSB.out
          have hf : sumsOk r c = (r.sum == c.sum) := by rw [HS.out, HY.out, HY2.out]; rfl
          obtain ⟨X, hX⟩ : ∃ X, X = r.sum := ⟨_, rfl⟩
          obtain ⟨Y, hY⟩ : ∃ Y, Y = c.sum := ⟨_, rfl⟩
          rw [← hX] at TA p1 p2 hf
          rw [← hY] at TB q1 q2 hf
          have TA := hide TA; have TB := hide TB; have HF := hide hf
          clear hX hY hf
          go_wp2_with (first | ((with_reducible refine (TA.out _ HA.out).mono ?_); rintro e w' ⟨rfl, rfl⟩) | ((with_reducible refine (TB.out _ HB.out).mono ?_); rintro e w' ⟨rfl, rfl⟩))
          go_ret
          exact ⟨ret_bool (by rw [HF.out]), Below.refl _ _⟩
theorem specSumsOk_any (va vb : Value) (r c : List Int) (w : World) (ha : InRow w va r) (hb : InRow w vb c) :
    Calls Tryz.prog 91 #[va, vb] w fun e w' => e = .returned (.bool (sumsOk r c)) ∧ Below w.heap.size w w' := by
  obtain ⟨a, ca, rfl, hma, hpa⟩ := ha
  obtain ⟨b, cb, rfl, hmb, hpb⟩ := hb
  have HA : Hid (InRow w (.slice a r.length ca) r) := hide ⟨a, ca, rfl, hma, hpa⟩
  have HB : Hid (InRow w (.slice b c.length cb) c) := hide ⟨b, cb, rfl, hmb, hpb⟩
  by_cases h : (1 ≤ r.length ∧ r.length ≤ 5) ∧ 1 ≤ c.length ∧ c.length ≤ 5
  · exact specSumsOk_yes a b ca cb r c w HA HB h.1 h.2
  · have HZ : Hid (sizeOk r.length c.length = false) := hide (by
      cases e : sizeOk r.length c.length with
      | false => rfl
      | true => have := sizeOk_yes e; omega)
    have HS : Hid (sumsOk r c = false) := hide (by rw [sumsOk, HZ.out]; rfl)
    rw [HS.out]
    clear hpa hpb h
    unfold maxLen at hma hmb
    obtain ⟨R, hR⟩ : ∃ R, R = r.length := ⟨_, rfl⟩
    obtain ⟨C, hC⟩ : ∃ C, C = c.length := ⟨_, rfl⟩
    rw [← hR, ← hC] at HZ ⊢
    rw [← hR] at hma
    rw [← hC] at hmb
    clear hR hC HA HB
    go_enter Tryz.func91, Tryz.ntmps91
    go_wp2_with (with_reducible refine (l03Size_any (R : Int) (C : Int) _).mono ?_; rw [HZ.out]; rintro e w' ⟨rfl, rfl⟩)
    go_ret
    exact ⟨rfl, Below.refl _ _⟩
end Go.Proofs.YtpfaaglaeholbaaGreat
/-
  ConjugateOf, of the model and of the program.
-/
namespace Go.Proofs.YtpfaaglaeholbaaGreat
open Go.RowKit

/-- The list g 0, .., g (n - 1). -/
def tabL (n : Nat) (g : Nat → Int) : List Int := (List.range n).map g
theorem tabL_len (n : Nat) (g : Nat → Int) : (tabL n g).length = n := by simp [tabL]
theorem tabL_at {n : Nat} {g : Nat → Int} {i : Nat} (h : i < (tabL n g).length) : (tabL n g)[i] = g i := by simp [tabL]
theorem tabL_congr {n : Nat} {g h : Nat → Int} (e : ∀ i, i < n → g i = h i) : tabL n g = tabL n h := by
  unfold tabL; exact List.map_congr_left fun i hi => e i (List.mem_range.1 hi)
theorem tabL_set (n : Nat) (g : Nat → Int) (k : Nat) (y : Int) : (tabL n g).set k y = tabL n fun t => if t = k then y else g t := by
  apply List.ext_getElem
  · simp [tabL]
  · intro i h1 h2
    rw [List.getElem_set, tabL_at h2]
    by_cases e : k = i
    · rw [if_pos e, if_pos e.symm]
    · rw [if_neg e, tabL_at, if_neg (fun h => e h.symm)]
theorem tabL_zero (n : Nat) : List.replicate n (Value.int .i64 0) = ints (tabL n fun _ => 0) := by
  apply List.ext_getElem
  · simp [ints, tabL]
  · intro i h1 h2; simp [ints, tabL]
theorem tabL_held {n : Nat} {g : Nat → Int} {i : Nat} (h : i < n) : (ints (tabL n g)).getD i undef = .int .i64 (g i) := by
  rw [List.getD_eq_getElem?_getD, ints_at _ _ (by rw [tabL_len]; exact h), tabL_at]; rfl

/-- How many of l are at least t. -/
def atLeast (t : Int) (l : List Int) : Nat := l.countP fun x => decide (t ≤ x)
theorem atLeast_le (t : Int) (l : List Int) : atLeast t l ≤ l.length := List.countP_le_length
theorem atLeast_take (t : Int) (l : List Int) (k : Nat) (h : k < l.length) : atLeast t (l.take (k + 1)) = atLeast t (l.take k) + if t ≤ l[k] then 1 else 0 := by
  rw [atLeast, List.take_succ_eq_append_getElem h, List.countP_append]
  simp [atLeast]
/-- What ConjugateOf returns. -/
def conjL (l : List Int) (n : Nat) : List Int := tabL n fun k => ((atLeast (k + 1) l : Nat) : Int)
def conjOk (l : List Int) (n : Int) : Bool := decide (1 ≤ n ∧ n ≤ 5) && (decide (l.length ≤ 5) && !l.any (badB n))
def conjRes (l : List Int) (n : Int) : List Int := if conjOk l n = true then conjL l n.toNat else []
theorem conj_no1 {l : List Int} {n : Int} (h : ¬ (1 ≤ n ∧ n ≤ 5)) : conjRes l n = [] := by rw [conjRes, conjOk, decide_eq_false h]; rfl
theorem conj_no2 {l : List Int} {n : Int} (h : 5 < l.length) : conjRes l n = [] := by rw [conjRes, conjOk, decide_eq_false (show ¬ l.length ≤ 5 by omega)]; simp
theorem conj_no3 {l : List Int} {n : Int} (h : l.any (badB n) = true) : conjRes l n = [] := by rw [conjRes, conjOk, h]; simp
theorem conj_yes {l : List Int} {n : Nat} (h1 : 1 ≤ n ∧ n ≤ 5) (h2 : l.length ≤ 5) (h : l.any (badB n) = false) : conjRes l n = conjL l n := by
  rw [conjRes, conjOk, h, decide_eq_true h2, decide_eq_true (show (1 : Int) ≤ n ∧ (n : Int) ≤ 5 by omega)]; simp

set_option maxHeartbeats 400000 in
theorem specConj_n (v : Value) (l : List Int) (n : Int) (w : World) (hin : InRow w v l) (h : ¬ (1 ≤ n ∧ n ≤ 5)) :
    Calls Tryz.prog 134 #[v, .int .i64 n] w (IntsRes [] w) := by
  obtain ⟨a, c, rfl, hm, -⟩ := hin
  unfold maxLen at hm
  have HE := hide (decide_eq_false h)
  clear h
  go_enter Tryz.func134, Tryz.ntmps134
  go_wp2_with (with_reducible refine (l01In_any n 1 5 _).mono ?_; rw [HE.out]; rintro e w' ⟨rfl, rfl⟩)
  go_ret
  exact intsRes_nil (Below.refl _ _)
set_option maxHeartbeats 400000 in
theorem specConj_len (v : Value) (l : List Int) (n : Int) (w : World) (hin : InRow w v l) (h : 1 ≤ n ∧ n ≤ 5) (h2 : 5 < l.length) :
    Calls Tryz.prog 134 #[v, .int .i64 n] w (IntsRes [] w) := by
  obtain ⟨a, c, rfl, hm, -⟩ := hin
  unfold maxLen at hm
  have HE := hide (decide_eq_true h)
  clear h
  go_enter Tryz.func134, Tryz.ntmps134
  go_wp2_with (with_reducible refine (l01In_any n 1 5 _).mono ?_; rw [HE.out]; rintro e w' ⟨rfl, rfl⟩)
  go_ret
  exact intsRes_nil (Below.refl _ _)
set_option maxHeartbeats 2000000 in
theorem specConj_yes (v : Value) (l : List Int) (n : Nat) (w : World) (hin : InRow w v l) (h : 1 ≤ n ∧ n ≤ 5) (h2 : l.length ≤ 5) :
    Calls Tryz.prog 134 #[v, .int .i64 n] w (IntsRes (conjRes l n) w) := by
  obtain ⟨a, c, rfl, hm, hp⟩ := hin
  unfold maxLen at hm
  have HP := hide fun h : l.length ≠ 0 => hp.resolve_left h
  have HE := hide (decide_eq_true (show (1 : Int) ≤ n ∧ (n : Int) ≤ 5 by omega))
  have HN3 := hide (conj_no3 (l := l) (n := n))
  have HY := hide (conj_yes (l := l) h h2)
  obtain ⟨L, hL⟩ : ∃ L, L = l.length := ⟨_, rfl⟩
  have HL := hide hL
  obtain ⟨h11, h12⟩ := h
  rw [← hL] at hm h2 ⊢
  clear hp hL
  go_enter Tryz.func134, Tryz.ntmps134
  go_wp2_with (first | (with_reducible refine (l01In_any n 1 5 _).mono ?_; rw [HE.out]; rintro e w' ⟨rfl, rfl⟩) | (at_make; refine wpList_new w.heap.size n (.int .i64 0) rfl _ _ rfl Tryz.underlying25 Tryz.infoInt rfl (by decide) rfl rfl (by omega) (Nat.le_refl _) ?_; intro w1 hown1 hb1 hg1))
  have HO := hide hown1; have HB := hide hb1
  clear hown1 hb1 hg1
  go_loopw [21] (fun i w' => ∃ k : Nat, k ≤ L ∧ i = .int .i64 k ∧ (∀ t, (h : t < l.length) → t < k → badB n l[t] = false) ∧ w'.ownsRow w.heap.size 3 1 (.slice (some ⟨w.heap.size, 0, none⟩) n n) n (ints (tabL n fun t => ((atLeast (t + 1) (l.take k) : Nat) : Int))) ∧ Below w.heap.size w w') (fun i _ => L - (intOf i).toNat)
  case atStart => exact ⟨0, Nat.zero_le _, rfl, fun t _ h => absurd h (Nat.not_lt_zero _), by rw [tabL_zero] at HO; exact HO.out, HB.out⟩
  case round =>
    clear HO HB
    obtain ⟨k, hk, rfl, hall, hown, hb⟩ := hrel
    have HA := hide hall; have HO := hide hown; have HB := hide hb
    clear hall hown hb
    by_cases hlt : k < L
    · obtain ⟨g, o, rfl, hg, hc⟩ := HP.out (by have := HL.out; omega)
      have hk' : k < l.length := by rw [← HL.out]; exact hlt
      have hx := below_cell HB.out hg (hc k hk')
      have HC := hide hc
      have HNO := hide (fun h => HN3.out (any_yes (p := badB n) k hk' h))
      have HST : Hid (badB n l[k] = false → ∀ t, (h : t < l.length) → t < k + 1 → badB n l[t] = false) := hide fun h t h1 ht => by
        by_cases e : t = k
        · subst e; exact h
        · exact HA.out t h1 (by omega)
      have HAT := hide (fun t : Nat => atLeast_take ((t : Int) + 1) l k hk')
      have HLE := hide (fun t : Int => Nat.le_trans (atLeast_le t (l.take k)) (show (l.take k).length ≤ 5 by rw [List.length_take]; have := HL.out; omega))
      obtain ⟨x, hxx⟩ : ∃ x, x = l[k] := ⟨_, rfl⟩
      rw [← hxx] at hx HNO HST HAT
      clear hxx hc
      have HBI := hide (bad_in n x)
      cases e : badB n x with
      | true =>
        have HE2 : Hid (decide (0 ≤ x ∧ x ≤ (n : Int)) = false) := hide (by rw [HBI.out, e]; rfl)
        have HF := hide (HNO.out e)
        clear e
        go_wp2_with (with_reducible refine (l01In_any x 0 (n : Int) _).mono ?_; rw [HE2.out]; rintro e w' ⟨rfl, rfl⟩)
        go_ret
        rw [HF.out]
        exact intsRes_nil HB.out
      | false =>
        have hx2 : 0 ≤ x ∧ x ≤ (n : Int) := by have := HBI.out; rw [e] at this; simpa using this
        have HE2 : Hid (decide (0 ≤ x ∧ x ≤ (n : Int)) = true) := hide (decide_eq_true hx2)
        have HST := hide (HST.out e)
        obtain ⟨hx0, hx1⟩ := hx2
        clear e
        go_wp2_with (with_reducible refine (l01In_any x 0 (n : Int) _).mono ?_; rw [HE2.out]; rintro e w' ⟨rfl, rfl⟩)
        obtain ⟨G, HG⟩ : ∃ G : Nat → Int, Hid (G = fun t : Nat => ((atLeast ((t : Int) + 1) (l.take k) : Nat) : Int)) := ⟨_, hide rfl⟩
        have HO := HO
        rw [← HG.out] at HO
        go_loopw [8] (fun i w' => ∃ q : Nat, (q : Int) ≤ x ∧ i = .int .i64 q ∧ w'.ownsRow w.heap.size 3 1 (.slice (some ⟨w.heap.size, 0, none⟩) n n) n (ints (tabL n fun t => G t + if t < q then 1 else 0)) ∧ Below w.heap.size w w') (fun i _ => (x - intOf i).toNat)
        case atStart =>
          refine ⟨0, by omega, rfl, ?_, HB.out⟩
          have e : (tabL n fun t => G t + if t < 0 then 1 else 0) = tabL n G := tabL_congr fun i _ => by simp
          rw [e]; exact HO.out
        case round =>
          clear HO HB
          obtain ⟨q, hq, rfl, hown, hb⟩ := hrel
          have HO := hide hown; have HB := hide hb
          clear hown hb
          by_cases hltq : (q : Int) < x
          · have hqn : q < n := by omega
            have hc1 := cell_held HO.out hqn
            rw [tabL_held hqn, if_neg (Nat.lt_irrefl q), Int.add_zero] at hc1
            have hG : 0 ≤ G q ∧ G q ≤ 5 := by rw [HG.out]; have := HLE.out ((q : Int) + 1); dsimp only; omega
            have hf := HO.out.frozenAt q
            have HS := HO.out.stored q (.int .i64 (G q + 1))
            rw [ints_set, tabL_set] at HS
            have e2 : (tabL n fun t => if t = q then G q + 1 else G t + if t < q then 1 else 0) = tabL n fun t => G t + if t < q + 1 then 1 else 0 := tabL_congr fun i _ => by
              by_cases e : i = q
              · subst e; rw [if_pos rfl, if_pos (Nat.lt_succ_self _)]
              · rw [if_neg e]
                by_cases e' : i < q
                · rw [if_pos e', if_pos (by omega)]
                · rw [if_neg e', if_neg (by omega)]
            rw [e2] at HS
            have HS := hide HS
            obtain ⟨hG0, hG1⟩ := hG
            obtain ⟨z, hz⟩ : ∃ z, z = G q := ⟨_, rfl⟩
            rw [← hz] at hc1 hG0 hG1 HS
            clear hz e2
            go_wp2
            go_roundw
            case rel => exact ⟨q + 1, by omega, by go_num, HS.out.1, HB.out.setCell (Nat.le_refl _) _⟩
            case measure => simp [intOf]; omega
          · have e3 : (tabL n fun t => G t + if t < q then 1 else 0) = tabL n fun t => ((atLeast (t + 1) (l.take (k + 1)) : Nat) : Int) := tabL_congr fun i _ => by
              rw [HG.out, HAT.out i]
              by_cases e : (i : Int) + 1 ≤ x
              · rw [if_pos e, if_pos (by omega)]; rfl
              · rw [if_neg e, if_neg (by omega)]; simp
            have HO : Hid _ := hide (e3 ▸ HO.out)
            clear e3
            go_wp2
            go_roundw
            case rel => exact ⟨k + 1, by omega, by go_num, HST.out, HO.out, HB.out⟩
            case measure => simp [intOf]; omega
    · have HY2 := hide (HY.out (any_no (p := badB n) fun t h => HA.out t h (by have := HL.out; omega)))
      have HE3 : Hid (l.take k = l) := hide (List.take_of_length_le (by have := HL.out; omega))
      go_wp2
      go_ret
      rw [HY2.out]
      have := HO.out
      rw [HE3.out] at this
      exact ⟨_, rfl, by rw [conjL, tabL_len]; exact this, HB.out⟩
theorem specConj_any (v : Value) (l : List Int) (n : Int) (w : World) (hin : InRow w v l) :
    Calls Tryz.prog 134 #[v, .int .i64 n] w (IntsRes (conjRes l n) w) := by
  by_cases h : 1 ≤ n ∧ n ≤ 5
  · by_cases h2 : l.length ≤ 5
    · obtain ⟨m, rfl⟩ : ∃ m : Nat, n = m := ⟨n.toNat, by omega⟩
      exact specConj_yes v l m w hin (by omega) h2
    · rw [conj_no2 (by omega)]; exact specConj_len v l n w hin h (by omega)
  · rw [conj_no1 h]; exact specConj_n v l n w hin h

set_option maxHeartbeats 400000 in
theorem countAtLeast_any (v : Value) (r : List Int) (t : Int) (w : World) (hin : InRow w v r) (hn : r.length ≤ 5) :
    Calls Tryz.prog 87 #[v, .int .i64 t] w fun e w' => e = .returned (.int .i64 (atLeast t r : Nat)) ∧ w = w' := by
  obtain ⟨a, c, rfl, hm, hp⟩ := hin
  unfold maxLen at hm
  have HP := hide fun h : r.length ≠ 0 => hp.resolve_left h
  obtain ⟨n, hnn⟩ : ∃ n, n = r.length := ⟨_, rfl⟩
  have HN := hide hnn
  rw [← hnn] at hm hn ⊢
  clear hp hnn
  go_enter Tryz.func87, Tryz.ntmps87
  go_wp2
  go_loop [5, 10] (fun s i => ∃ k : Nat, k ≤ n ∧ i = .int .i64 k ∧ s = .int .i64 (atLeast t (r.take k) : Nat)) (fun _ i => n - (intOf i).toNat)
  case atStart => exact ⟨0, Nat.zero_le _, rfl, rfl⟩
  case round =>
    obtain ⟨k, hk, rfl, rfl⟩ := hrel
    have hle := Nat.le_trans (atLeast_le t (r.take k)) (show (r.take k).length ≤ 5 by rw [List.length_take]; have := HN.out; omega)
    by_cases hlt : k < n
    · obtain ⟨g, o, rfl, hg, hc⟩ := HP.out (by have := HN.out; omega)
      have hk' : k < r.length := by rw [← HN.out]; exact hlt
      have hx := hc k hk'
      have HAT := hide (atLeast_take t r k hk')
      obtain ⟨x, hxx⟩ : ∃ x, x = r[k] := ⟨_, rfl⟩
      obtain ⟨q, hq⟩ : ∃ q, q = atLeast t (r.take k) := ⟨_, rfl⟩
      rw [← hxx] at hx HAT
      rw [← hq] at hle HAT ⊢
      clear hxx hq hc
      by_cases htx : t ≤ x
      · have HAT2 : Hid (atLeast t (r.take (k + 1)) = q + 1) := hide (by rw [HAT.out, if_pos htx])
        clear HAT
        go_wp2
        go_round
        case rel => exact ⟨k + 1, by omega, by go_num, by rw [HAT2.out]; go_num⟩
        case measure => simp [intOf]; omega
      · have HAT2 : Hid (atLeast t (r.take (k + 1)) = q) := hide (by rw [HAT.out, if_neg htx]; rfl)
        clear HAT
        go_wp2
        go_round
        case rel => exact ⟨k + 1, by omega, by go_num, by rw [HAT2.out]⟩
        case measure => simp [intOf]; omega
    · have HE : Hid (r.take k = r) := hide (List.take_of_length_le (by have := HN.out; omega))
      rw [HE.out] at hle ⊢
      go_wp2
      go_ret
      exact ⟨rfl, rfl⟩
set_option maxHeartbeats 400000 in
theorem conjAt_any (v : Value) (r : List Int) (t : Int) (q : Nat) (w : World) (hin : InRow w v r) (hn : r.length ≤ 5) (hc : w.cell? ⟨q, 0, none⟩ = some v) :
    Calls Tryz.prog 138 #[.int .i64 t, .pointer (some ⟨q, 0, none⟩)] w fun e w' => e = .returned (.int .i64 (atLeast t r : Nat)) ∧ w = w' := by
  have HI := hide hin
  obtain ⟨a, c, rfl, -, -⟩ := hin
  go_enter Tryz.func138, Tryz.ntmps138
  go_wp2_with ((with_reducible refine (countAtLeast_any _ r t _ HI.out hn).mono ?_); rintro e w' ⟨rfl, rfl⟩)
  go_ret
  exact ⟨rfl, rfl⟩
set_option maxHeartbeats 1000000 in
theorem collectInt_any (v : Value) (r : List Int) (n q : Nat) (w : World) (hin : InRow w v r) (hr : r.length ≤ 5) (hq : q < w.heap.size) (hc : w.cell? ⟨q, 0, none⟩ = some v) (h : 1 ≤ n ∧ n ≤ 5) :
    Calls Tryz.prog 68 #[.int .i64 n, .func (.func 138) #[] #[.pointer (some ⟨q, 0, none⟩)]] w (IntsRes (conjL r n) w) := by
  have HI := hide hin; have HR := hide hr; have HC := hide hc; have HQ := hide hq
  obtain ⟨h11, h12⟩ := h
  clear hin hr hc hq
  go_enter Tryz.func68, Tryz.ntmps68
  go_wp2_with (at_make; refine wpList_new w.heap.size n (.int .i64 0) rfl _ _ rfl Tryz.underlying25 Tryz.infoInt rfl (by decide) rfl rfl (by omega) (Nat.le_refl _) ?_; intro w1 hown1 hb1 hg1)
  have HO := hide hown1; have HB := hide hb1
  clear hown1 hb1 hg1
  go_wp2
  go_loopw [10] (fun i w' => ∃ k : Nat, k ≤ n ∧ i = .int .i64 k ∧ w'.ownsRow w.heap.size 3 1 (.slice (some ⟨w.heap.size, 0, none⟩) n n) n (ints (tabL n fun t => if t < k then ((atLeast (t + 1) r : Nat) : Int) else 0)) ∧ Below w.heap.size w w') (fun i _ => n - (intOf i).toNat)
  case atStart => exact ⟨0, Nat.zero_le _, rfl, by rw [tabL_zero] at HO; exact HO.out, HB.out⟩
  case round =>
    clear HO HB
    obtain ⟨k, hk, rfl, hown, hb⟩ := hrel
    have HO := hide hown; have HB := hide hb
    clear hown hb
    by_cases hlt : k < n
    · have hc1 := cell_held HO.out hlt
      have hf := HO.out.frozenAt k
      have HS := HO.out.stored k (.int .i64 (atLeast ((k : Int) + 1) r : Nat))
      rw [ints_set, tabL_set] at HS
      have e2 : (tabL n fun t => if t = k then ((atLeast ((k : Int) + 1) r : Nat) : Int) else if t < k then ((atLeast (t + 1) r : Nat) : Int) else 0) = tabL n fun t => if t < k + 1 then ((atLeast (t + 1) r : Nat) : Int) else 0 := tabL_congr fun i _ => by
        by_cases e : i = k
        · subst e; rw [if_pos rfl, if_pos (Nat.lt_succ_self _)]
        · rw [if_neg e]
          by_cases e' : i < k
          · rw [if_pos e', if_pos (by omega)]
          · rw [if_neg e', if_neg (by omega)]
      rw [e2] at HS
      have HS := hide HS
      clear e2
      have hle := Nat.le_trans (atLeast_le ((k : Int) + 1) r) HR.out
      have HCA := hide (conjAt_any v r ((k : Int) + 1) q wr (inRow_below HI.out HB.out) HR.out (below_cell HB.out HQ.out HC.out))
      obtain ⟨z, hz⟩ : ∃ z, z = atLeast ((k : Int) + 1) r := ⟨_, rfl⟩
      rw [← hz] at HS hle HCA
      clear hz
      go_wp2_with (go_at_call 138; refine HCA.out.mono ?_; rintro e w9 ⟨rfl, rfl⟩)
      go_roundw
      case rel => exact ⟨k + 1, by omega, by go_num, HS.out.1, HB.out.setCell (Nat.le_refl _) _⟩
      case measure => simp [intOf]; omega
    · obtain rfl : k = n := by omega
      have e3 : (tabL k fun t => if t < k then ((atLeast (t + 1) r : Nat) : Int) else 0) = conjL r k := tabL_congr fun i hi => by rw [if_pos hi]
      have HO : Hid _ := hide (e3 ▸ HO.out)
      clear e3
      go_wp2
      go_ret
      exact ⟨_, rfl, by rw [conjL, tabL_len]; exact HO.out, HB.out⟩
/-- .. and nil where there are none. -/
def IntsNil (r : List Int) (w : World) (e : Ending) (w' : World) : Prop := IntsRes r w e w' ∧ (r = [] → e = .returned (.slice none 0 0))
set_option maxHeartbeats 1000000 in
theorem implConj_nil (v : Value) (l : List Int) (n : Int) (w : World) (hin : InRow w v l) :
    Calls Tryz.prog 125 #[v, .int .i64 n] w (IntsNil (conjRes l n) w) := by
  have hbox := (Below.refl w.heap.size w).alloc (Nat.le_refl _) (.cells #[v] 25)
  have HI := hide (inRow_below hin hbox); have HBX := hide hbox
  have HCX := hide (show (w.alloc (.cells #[v] 25)).cell? ⟨w.heap.size, 0, none⟩ = some v by simp [World.cell?_alloc_new])
  obtain ⟨a, c, rfl, hm, -⟩ := hin
  unfold maxLen at hm
  clear hbox
  by_cases h : 1 ≤ n ∧ n ≤ 5
  · have HE := hide (decide_eq_true h)
    obtain ⟨h11, h12⟩ := h
    by_cases h2 : l.length ≤ 5
    · obtain ⟨m, rfl⟩ : ∃ m : Nat, n = m := ⟨n.toNat, by omega⟩
      have HL := hide h2
      cases h3 : l.any (badB m) with
      | true =>
        rw [conj_no3 h3]
        have H3 := hide h3
        clear h3
        go_enter Tryz.func125, Tryz.ntmps125
        go_wp2_with (first | (with_reducible refine (sideOk_any (m : Int) _).mono ?_; rw [HE.out]; rintro e w' ⟨rfl, rfl⟩) | ((with_reducible refine (sumsInRange_any _ l (m : Int) _ HI.out).mono ?_); rw [H3.out]; rintro e w1 ⟨rfl, b1⟩; have B1 := hide (HBX.out.trans (b1.mono HBX.out.size)); clear b1))
        go_ret
        exact ⟨intsRes_nil B1.out, fun _ => rfl⟩
      | false =>
        rw [conj_yes ⟨by omega, by omega⟩ h2 h3]
        have H3 := hide h3
        clear h3
        go_enter Tryz.func125, Tryz.ntmps125
        go_wp2_with (first | (with_reducible refine (sideOk_any (m : Int) _).mono ?_; rw [HE.out]; rintro e w' ⟨rfl, rfl⟩) | ((with_reducible refine (sumsInRange_any _ l (m : Int) _ HI.out).mono ?_); rw [H3.out]; rintro e w1 ⟨rfl, b1⟩; have B1 := hide (HBX.out.trans (b1.mono HBX.out.size)); have I1 := hide (inRow_below HI.out b1); have C1 := hide (below_cell b1 (by simp) HCX.out); have hs1 := b1.size; rw [World.size_alloc] at hs1; clear b1) | ((with_reducible refine (collectInt_any _ l m w.heap.size _ I1.out HL.out (by omega) C1.out ⟨by omega, by omega⟩).mono ?_); rintro e w2 ⟨u, rfl, ho, hb⟩; have HO := hide (own_base ho B1.out.size); have HB2 := hide (B1.out.trans (hb.mono B1.out.size)); clear ho hb))
        go_ret
        exact ⟨⟨_, rfl, HO.out, HB2.out⟩, fun h => absurd (congrArg List.length h) (by rw [conjL, tabL_len]; simp; omega)⟩
    · rw [conj_no2 (by omega)]
      go_enter Tryz.func125, Tryz.ntmps125
      go_wp2_with (first | (with_reducible refine (sideOk_any n _).mono ?_; rw [HE.out]; rintro e w' ⟨rfl, rfl⟩))
      go_ret
      exact ⟨intsRes_nil HBX.out, fun _ => rfl⟩
  · rw [conj_no1 h]
    have HE := hide (decide_eq_false h)
    clear h
    go_enter Tryz.func125, Tryz.ntmps125
    go_wp2_with (first | (with_reducible refine (sideOk_any n _).mono ?_; rw [HE.out]; rintro e w' ⟨rfl, rfl⟩))
    go_ret
    exact ⟨intsRes_nil HBX.out, fun _ => rfl⟩
theorem implConj_any (v : Value) (l : List Int) (n : Int) (w : World) (hin : InRow w v l) :
    Calls Tryz.prog 125 #[v, .int .i64 n] w (IntsRes (conjRes l n) w) := (implConj_nil v l n w hin).mono fun _ _ h => h.1
end Go.Proofs.YtpfaaglaeholbaaGreat
/-
  The sums of the lesser ones are the sums of the conjugate.
-/
namespace Go.Proofs.YtpfaaglaeholbaaGreat
open Go.RowKit

theorem most_step (r : List Int) (k : Nat) : (r.map fun x => min x ((k : Int) + 1)).sum = (r.map fun x => min x (k : Int)).sum + (atLeast ((k : Int) + 1) r : Nat) := by
  induction r with
  | nil => rfl
  | cons x r ih =>
    rw [List.map_cons, List.map_cons, List.sum_cons, List.sum_cons, ih, atLeast, atLeast, List.countP_cons]
    by_cases h : (k : Int) + 1 ≤ x
    · rw [if_pos (decide_eq_true h)]; omega
    · rw [if_neg (by simpa using h)]; omega
theorem most_sum {r : List Int} {n : Nat} (hr : ∀ x ∈ r, 0 ≤ x) : ∀ k, k ≤ n → (r.map fun x => min x (k : Int)).sum = ((conjL r n).take k).sum := by
  intro k
  induction k with
  | zero =>
    intro _
    have h : (r.map fun x => min x ((0 : Nat) : Int)) = r.map fun _ => 0 := List.map_congr_left fun x hx => by have := hr x hx; omega
    rw [h]
    clear h hr
    induction r with
    | nil => rfl
    | cons x r ih => rw [List.map_cons, List.sum_cons, ih]; simp
  | succ k ih =>
    intro hk
    have hl : (conjL r n).length = n := by rw [conjL, tabL_len]
    have ha : (conjL r n)[k]'(by omega) = ((atLeast (k + 1) r : Nat) : Int) := tabL_at _
    rw [sum_snoc _ k (by omega), ← ih (by omega), ha]
    exact most_step r k
end Go.Proofs.YtpfaaglaeholbaaGreat
