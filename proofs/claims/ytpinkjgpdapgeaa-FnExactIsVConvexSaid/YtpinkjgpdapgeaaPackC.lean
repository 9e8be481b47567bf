/-
  Texts of this claim, one behind the other: Tail, Obt, Line, LineOf, Sums, LawsQ, Conj, SortL, Top, Fill.
-/
import Derived.Test.YtpinkjgpdapgeaaPackB
import Derived.Sort.LotA
/-
  A region that draws its order and whose last operation waits for all others: each met alone, the last one behind them.
-/
namespace Go.Proofs.Ytpinkjgpdapgeaa
open Go.RowKit
section
variable {P : Program} {md : Region.Mode} {ops : Array Oper} {Q : Exit → Act → World → Prop}

/-- Each operation but the last has a later one that waits for it. -/
def tails (md : Region.Mode) (l : List Oper) : Bool :=
  (List.range (l.length - 1)).all fun j => (List.range l.length).any fun k => decide (j < k) && (match l[k]? with | some o => o.after.any (fun e => e.on == j && Region.binds md e) | none => false)
def Closed (md : Region.Mode) (ops : Array Oper) (listed : Array Bool) : Prop :=
  ∀ (k : Nat) (o : Oper), ops[k]? = some o → listed.getD k false = true → ∀ e ∈ o.after, Region.binds md e = true → listed.getD e.on false = true
theorem all_before {listed : Array Bool} (ht : tails md ops.toList = true) (hc : Closed md ops listed) {last : Oper} (hl : ops[ops.size - 1]? = some last)
    (hd : ∀ e ∈ last.after, Region.binds md e = true → listed.getD e.on false = true) : ∀ m j, ops.size - 1 - j ≤ m → j < ops.size - 1 → listed.getD j false = true
  | 0, j, hm, hj => by omega
  | m + 1, j, hm, hj => by
    have ht0 := ht
    unfold tails at ht
    rw [List.all_eq_true] at ht
    have := ht j (List.mem_range.2 (by simpa using hj))
    rw [List.any_eq_true] at this
    obtain ⟨k, hk, h⟩ := this
    rw [List.mem_range] at hk
    simp only [Bool.and_eq_true, decide_eq_true_eq] at h
    obtain ⟨hjk, h⟩ := h
    have hk' : k < ops.size := by simpa using hk
    have hko : ops.toList[k]? = some ops[k] := by simp [hk']
    rw [hko] at h
    simp only [Array.any_eq_true, Bool.and_eq_true, beq_iff_eq] at h
    obtain ⟨n, hn, he, hb⟩ := h
    have hmem : ops[k].after[n] ∈ ops[k].after := Array.getElem_mem hn
    by_cases e : k = ops.size - 1
    · subst e
      rw [Array.getElem?_eq_getElem hk'] at hl
      obtain rfl := Option.some.inj hl
      have := hd _ hmem hb
      rw [he] at this; exact this
    · have hkl := all_before ht0 hc hl hd m k (by omega) (by omega)
      have := hc k ops[k] (Array.getElem?_eq_getElem hk') hkl _ hmem hb
      rw [he] at this; exact this

theorem wpAny_tail {a0 : Act} {S : World → Prop} {F : Nat → Value → World → Prop} {last : Oper} (ho : orderly md a0.tmps.size 0 [] ops.toList = true) (ht : tails md ops.toList = true) (hl : ops[ops.size - 1]? = some last)
    (hop : ∀ (i : Nat) (o : Oper), ops[i]? = some o → i < ops.size - 1 → Each P md ops Q a0 S F i o)
    (hlast : ∀ (a : Act) (w : World), a.tmps.size = a0.tmps.size → a.defers = a0.defers → (∀ t, outside ops t = true → a.tmps.getD t undef = a0.tmps.getD t undef) → S w →
      (∀ (i : Nat) (o : Oper) (d : Tmp), ops[i]? = some o → i < ops.size - 1 → o.dst = some d → F i (a.tmps.getD d undef) w) → ∀ K : Act → World → Prop, (∀ a' w', Q .normal a' w' → K a' w') → wpOp P ops Q (ops.size - 1) K a w) :
    ∀ (fuel : Nat) (listed : Array Bool) (a : Act) (w : World), Mid ops a0 S F listed a w → Closed md ops listed → listed.getD (ops.size - 1) true = false → unl listed ops.size ≤ fuel → wpAny P md ops Q fuel listed a w := by
  have hlt0 : ops.size - 1 < ops.size := (Array.getElem?_eq_some_iff.1 hl).1
  have hon : ∀ (i : Nat) (o : Oper), ops[i]? = some o → ∀ e ∈ o.after, Region.binds md e = true → e.on < i := fun i o hi e he hbd => by
    have := orderly_on ops.toList 0 [] ho i o (by simpa using hi) e he hbd; omega
  have hdst : ∀ (i : Nat) (o : Oper) (d : Tmp), ops[i]? = some o → o.dst = some d → d < a0.tmps.size := fun i o d hi hd => (orderly_dst ops.toList 0 [] ho i o d (by simpa using hi) hd).1
  have hone : ∀ (i : Nat) (o : Oper) (d : Tmp), ops[i]? = some o → o.dst = some d → ∀ (j : Nat) (o' : Oper), ops[j]? = some o' → i ≠ j → o'.dst ≠ some d := fun i o d hi hd j o' hj hij e => by
    rcases Nat.lt_or_gt_of_ne hij with h | h
    · exact (orderly_dst ops.toList 0 [] ho i o d (by simpa using hi) hd).2.2 j o' (by simpa using hj) h e
    · exact (orderly_dst ops.toList 0 [] ho j o' d (by simpa using hj) e).2.2 i o (by simpa using hi) h hd
  intro fuel
  induction fuel with
  | zero =>
    intro listed a w hm hcl hul hf
    exfalso
    have := unl_set listed _ hul ops.size
    rw [if_pos hlt0] at this
    omega
  | succ fuel ih =>
    intro listed a w hm hcl hul hf
    refine ⟨fun hr => ?_, fun i hi => ?_⟩
    · exfalso
      have h1 := ready_none hm.size hon hr _ hlt0
      have hlt : ops.size - 1 < listed.size := by have := hm.size; omega
      simp [hlt] at hul h1
      rw [h1] at hul; cases hul
    obtain ⟨hul2, o, ho', hall⟩ := mem_ready.1 hi
    have hlt : i < ops.size := (Array.getElem?_eq_some_iff.1 ho').1
    by_cases e : i = ops.size - 1
    · subst e
      rw [hl] at ho'
      obtain rfl := Option.some.inj ho'
      have hab := fun j hj => all_before ht hcl hl hall _ j (Nat.le_refl _) hj
      refine hlast a w hm.tmps hm.defers hm.out hm.world (fun j oj d hj hjl hd => hm.held j oj d hj hd (hab j hjl)) _ fun a' w' hq => ?_
      have hrd : Region.ready md ops (listed.setIfInBounds (ops.size - 1) true) = [] := by
        rw [List.eq_nil_iff_forall_not_mem]
        intro j hj
        obtain ⟨hl', o', ho'', -⟩ := mem_ready.1 hj
        have hj' : j < ops.size := (Array.getElem?_eq_some_iff.1 ho'').1
        have hls : ops.size - 1 < listed.size := by have := hm.size; omega
        by_cases ej : ops.size - 1 = j
        · subst ej; simp [hls] at hl'
        · rw [getD_set_ne true ej] at hl'
          have h1 := hab j (by omega)
          have hjs : j < listed.size := by have := hm.size; omega
          simp [hjs] at hl' h1
          rw [h1] at hl'; cases hl'
      cases fuel with
      | zero => exact ⟨hrd, hq⟩
      | succ fuel => exact ⟨fun _ => hq, fun j hj => by rw [hrd] at hj; cases hj⟩
    · refine hop i o ho' (by omega) a w hm.tmps hm.defers hm.out hm.world (fun e he hb oe d hoe hd => hm.held e.on oe d hoe hd (hall e he hb)) _ fun v w' hS hst hF => ?_
      have hls : listed.size = ops.size := hm.size
      refine ih _ _ _ ⟨by simp [hm.size], ?_, ?_, fun t ht => ?_, hS, fun j oj d hj hd hlj => ?_⟩ (fun k ok hk hlk e' he' hb' => ?_) ?_ ?_
      · cases o.dst <;> simp [Act.put, hm.tmps]
      · cases o.dst <;> simp [Act.put, hm.defers]
      · rw [← hm.out t ht]
        cases hd : o.dst with
        | none => rfl
        | some d =>
          have hne : d ≠ t := by
            intro e; subst e
            unfold outside at ht
            rw [Array.all_eq_true_iff_forall_mem] at ht
            have := ht o (Array.mem_of_getElem? ho')
            rw [hd] at this; simp at this
          simp [Act.put, Array.getElem?_setIfInBounds_ne hne]
      · by_cases e : i = j
        · subst e
          rw [ho'] at hj
          obtain rfl := Option.some.inj hj
          have hdl : d < a.tmps.size := by rw [hm.tmps]; exact hdst i o d ho' hd
          have : (a.put o.dst v).tmps.getD d undef = v := by rw [hd]; simp [Act.put, hdl]
          rw [this]; exact hF
        · have h1 : listed.getD j false = true := by rw [getD_set_ne false e] at hlj; exact hlj
          have h2 := hm.held j oj d hj hd h1
          have h3 : (a.put o.dst v).tmps.getD d undef = a.tmps.getD d undef := by
            cases hd' : o.dst with
            | none => rfl
            | some d' =>
              have hne : d' ≠ d := fun e' => hone j oj d hj hd i o ho' (Ne.symm e) (by rw [hd', e'])
              simp [Act.put, Array.getElem?_setIfInBounds_ne hne]
          rw [h3]; exact hst j _ h2
      · have hne : i ≠ e'.on ∨ i = e'.on := (Nat.decEq i e'.on).byCases (fun h => .inr h) (fun h => .inl h)
        by_cases ek : i = k
        · subst ek
          rw [ho'] at hk
          obtain rfl := Option.some.inj hk
          have h1 := hall e' he' hb'
          have h2 : i ≠ e'.on := by have := hon i o ho' e' he' hb'; omega
          rw [getD_set_ne false h2]; exact h1
        · rw [getD_set_ne false ek] at hlk
          have h1 := hcl k ok hk hlk e' he' hb'
          by_cases e2 : i = e'.on
          · rw [← e2]; simp [show i < listed.size by omega]
          · rw [getD_set_ne false e2]; exact h1
      · rw [getD_set_ne true e]; exact hul
      · have := unl_set listed i hul2 ops.size
        rw [if_pos hlt] at this; omega

/-- What a slot holds, in a world. -/
abbrev FactP := Value → World → Prop
def isV (v : Value) : FactP := fun u _ => u = v
def factP (fs : List FactP) (i : Nat) : FactP := fs.getD i (isV undef)

def AllOps (ob : Nat → Oper → Prop) : Nat → List Oper → Prop
  | _, [] => True
  | k, o :: r => ob k o ∧ AllOps ob (k + 1) r
theorem allOps_at {ob : Nat → Oper → Prop} : ∀ (l : List Oper) (k : Nat), AllOps ob k l → ∀ (i : Nat) (o : Oper), l[i]? = some o → ob (k + i) o
  | [], _, _, i, o, h => by simp at h
  | x :: r, k, hl, i, o, h => by
    cases i with
    | zero => simp only [List.getElem?_cons_zero, Option.some.injEq] at h; subst h; exact hl.1
    | succ i =>
      simp only [List.getElem?_cons_succ] at h
      have := allOps_at r (k + 1) hl.2 i o h
      rwa [show k + 1 + i = k + (i + 1) by omega] at this

def depT (o : Oper) (j : Nat) : Bool := o.after.any fun e => e.on == j && Region.binds .any e
/-- What is asked of one operation, its forerunners' slots named. -/
def Obt (P : Program) (Q : Exit → Act → World → Prop) (base : List (Tmp × Value)) (dsts : List (Option Tmp)) (S : World → Prop) (fs : List FactP) (i : Nat) (o : Oper) : Prop :=
  ∀ (a : Act) (w : World), S w → (∀ t v, base.lookup t = some v → a.tmps.getD t undef = v) →
    (∀ j d, dsts[j]? = some (some d) → depT o j = true → factP fs j (a.tmps.getD d undef) w) →
    ∀ K : Act → World → Prop, (∀ v w', S w' → (∀ j u, factP fs j u w → factP fs j u w') → factP fs i v w' → K (a.put o.dst v) w') →
      (o.guard = none ∨ ∃ j d, o.guard = some (j, true) ∧ dsts[j]? = some (some d) ∧ a.tmps.getD d undef = .bool true) ∧ o.wp P a w K Q

theorem wp_region_tail {ops : Array Oper} {id : Nat} {a : Act} {w : World} {S : World → Prop} (fs : List FactP) (base : List (Tmp × Value)) (dsts : List (Option Tmp)) (last : Oper) (k : Nat)
    (hm : P.follows .mixedOrders = true) (hk : ops.size = k + 1) (hlk : ops[k]? = some last) (ho : orderly .any a.tmps.size 0 [] ops.toList = true) (ht : tails .any ops.toList = true) (hd : ops.toList.map (·.dst) = dsts)
    (hbo : base.all (fun p => outside ops p.1) = true) (hb : ∀ t v, base.lookup t = some v → a.tmps.getD t undef = v)
    (hS : S w.drew) (hob : AllOps (Obt P Q base dsts S fs) 0 ops.toList.dropLast) (hgl : last.guard = none)
    (hlast : ∀ (a' : Act) (w' : World), a'.tmps.size = a.tmps.size → a'.defers = a.defers → (∀ t, outside ops t = true → a'.tmps.getD t undef = a.tmps.getD t undef) → S w' →
      (∀ j d, dsts[j]? = some (some d) → j < k → factP fs j (a'.tmps.getD d undef) w') → ∀ K : Act → World → Prop, (∀ v w2, Q .normal (a'.put last.dst v) w2 → K (a'.put last.dst v) w2) → last.wp P a' w' K Q) :
    (Code.region id ops true).wp P Q a w := by
  have hl : ops[ops.size - 1]? = some last := by rw [hk]; exact hlk
  have hdst' : ∀ (j : Nat) (d : Tmp), dsts[j]? = some (some d) → ∃ o, ops[j]? = some o ∧ o.dst = some d := fun j d h => by
    rw [← hd, List.getElem?_map] at h
    cases hj : ops.toList[j]? with
    | none => rw [hj] at h; simp at h
    | some o =>
      rw [hj] at h
      exact ⟨o, by simpa using hj, by simpa using h⟩
  have hmem : ∀ (t : Tmp) (v : Value) (l : List (Tmp × Value)), l.lookup t = some v → ∃ p ∈ l, p.1 = t := fun t v l => by
    induction l with
    | nil => intro h; simp at h
    | cons x r ih =>
      intro h
      rw [List.lookup_cons] at h
      by_cases e : t == x.1
      · exact ⟨x, List.mem_cons_self, (by simpa using e : t = x.1).symm⟩
      · have e' : (t == x.1) = false := by simpa using e
        rw [e'] at h
        obtain ⟨p, hp, hpt⟩ := ih h
        exact ⟨p, List.mem_cons_of_mem _ hp, hpt⟩
  have hstart : ∀ k, k ≤ ops.size → unl (Array.replicate ops.size false) k = k := by
    intro k
    induction k with
    | zero => intro _; rfl
    | succ k ih =>
      intro hk
      rw [unl, ih (by omega)]
      have : (Array.replicate ops.size false).getD k true = false := by simp [show k < ops.size by omega]
      rw [this]; rfl
  refine wp_region_any hm (wpAny_tail (F := fun i u w => factP fs i u w) ho ht hl (fun i o hi hil a' w' hts hds hout hSw hdep K hK => ?_) (fun a' w' h1 h2 h3 h4 h5 K hK => ?_) _ _ _ _ ⟨by simp, rfl, rfl, fun _ _ => rfl, hS, fun i o d hi _ hl => ?_⟩ (fun k o hk hlk => ?_) ?_ ?_)
  · have hbase : ∀ t v, base.lookup t = some v → a'.tmps.getD t undef = v := fun t v h => by
      obtain ⟨p, hp, rfl⟩ := hmem t v base h
      rw [List.all_eq_true] at hbo
      rw [hout p.1 (hbo p hp)]; exact hb p.1 v h
    have hdep' : ∀ j d, dsts[j]? = some (some d) → depT o j = true → factP fs j (a'.tmps.getD d undef) w' := fun j d h he => by
      unfold depT at he
      rw [Array.any_eq_true] at he
      obtain ⟨n, hn, he⟩ := he
      simp only [Bool.and_eq_true, beq_iff_eq] at he
      obtain ⟨oe, hoe, hde⟩ := hdst' j d h
      have := hdep (o.after[n]) (Array.getElem_mem hn) he.2 oe d (by rw [he.1]; exact hoe) hde
      rw [he.1] at this; exact this
    have hip : ops.toList.dropLast[i]? = some o := by
      have : ops.toList[i]? = some o := by simpa using hi
      rw [List.getElem?_dropLast, if_pos (by simpa using hil)]; exact this
    have hobi := allOps_at _ 0 hob i o hip
    rw [Nat.zero_add] at hobi
    obtain ⟨hg, hwp⟩ := hobi a' w' hSw hbase hdep' K hK
    have hwant : Region.wanted o (yielded ops a'.tmps) = true := by
      rcases hg with hg | ⟨j, d, hg, hj, hv⟩
      · simp [Region.wanted, hg]
      · obtain ⟨oj, hoj, hdj⟩ := hdst' j d hj
        have h1 : a'.tmps[d]? = some (.bool true) := by
          cases h : a'.tmps[d]? with
          | none => simp [h] at hv; cases hv
          | some u => simp [h] at hv; rw [hv]
        simp [Region.wanted, hg, yielded, hoj, hdj, h1]
    unfold wpOp
    simp only [hi, hwant, if_true]
    exact .inl hwp
  · have hw := hlast a' w' h1 h2 h3 h4 (fun j d h hj => by
      obtain ⟨o, ho', hd'⟩ := hdst' j d h
      exact h5 j o d ho' (by omega) hd') K fun v w2 hq => hK _ _ hq
    unfold wpOp
    have hwant : Region.wanted last (yielded ops a'.tmps) = true := by simp [Region.wanted, hgl]
    simp only [hl, hwant, if_true]
    exact .inl hw
  · exfalso
    have hlt : i < ops.size := (Array.getElem?_eq_some_iff.1 hi).1
    simp [hlt] at hl
  · exfalso
    have hlt : k < ops.size := (Array.getElem?_eq_some_iff.1 hk).1
    simp [hlt] at hlk
  · have hlt : ops.size - 1 < ops.size := by omega
    simp [hlt]
  · rw [hstart _ (Nat.le_refl _)]; exact Nat.le_refl _
end
end Go.Proofs.Ytpinkjgpdapgeaa
/-
  The operations of such a region, kind by kind.
-/
namespace Go.Proofs.Ytpinkjgpdapgeaa
open Go.RowKit

/-- What an operand reads as: a slot from before, a slot of a forerunner, a constant. -/
def SrcT (base : List (Tmp × Value)) (dsts : List (Option Tmp)) (fs : List FactP) (o : Oper) (x : Operand) (v : Value) : Prop :=
  (∃ t, x = .tmp t ∧ base.lookup t = some v) ∨ (∃ j d, x = .tmp d ∧ dsts[j]? = some (some d) ∧ depT o j = true ∧ factP fs j = isV v) ∨ x = .const v
theorem srt_b {base : List (Tmp × Value)} {dsts : List (Option Tmp)} {fs : List FactP} {o : Oper} {v : Value} (t : Tmp) (h : base.lookup t = some v) : SrcT base dsts fs o (.tmp t) v := .inl ⟨t, rfl, h⟩
theorem srt_j {base : List (Tmp × Value)} {dsts : List (Option Tmp)} {fs : List FactP} {o : Oper} {v : Value} {d : Tmp} (j : Nat) (h1 : dsts[j]? = some (some d)) (h2 : depT o j = true) (h3 : factP fs j = isV v) : SrcT base dsts fs o (.tmp d) v := .inr (.inl ⟨j, d, rfl, h1, h2, h3⟩)
theorem srt_c {base : List (Tmp × Value)} {dsts : List (Option Tmp)} {fs : List FactP} {o : Oper} {v : Value} : SrcT base dsts fs o (.const v) v := .inr (.inr rfl)
def SrcsT (base : List (Tmp × Value)) (dsts : List (Option Tmp)) (fs : List FactP) (o : Oper) : List Operand → List Value → Prop
  | [], [] => True
  | x :: l, v :: r => SrcT base dsts fs o x v ∧ SrcsT base dsts fs o l r
  | _, _ => False
/-- A slot whose fact is no bare value. -/
def SlotT (dsts : List (Option Tmp)) (o : Oper) (j : Nat) (d : Tmp) : Prop := dsts[j]? = some (some d) ∧ depT o j = true

/-- A fact that stands while nothing that was there turns. -/
def StableP (f : FactP) : Prop := ∀ u w w', Below w.heap.size w w' → f u w → f u w'
theorem stable_v (v : Value) : StableP (isV v) := fun _ _ _ _ h => h
theorem stable_all {fs : List FactP} (h : ∀ f ∈ fs, StableP f) (j : Nat) : StableP (factP fs j) := by
  unfold factP
  rw [List.getD_eq_getElem?_getD]
  cases hj : fs[j]? with
  | none => exact stable_v _
  | some f => exact h f (List.mem_of_getElem? hj)

theorem run_value {P : Program} {Q : Exit → Act → World → Prop} {o : Oper} {a : Act} {w w' : World} {K : Act → World → Prop} (v : Value) (hr : (execOp a.eval o).run P w = .ok (.value v) w') (h : K (a.put o.dst v) w') : o.wp P a w K Q := by
  unfold Oper.wp; rw [hr]; exact h
theorem run_skip {P : Program} {Q : Exit → Act → World → Prop} {o : Oper} {a : Act} {w w' : World} {K : Act → World → Prop} (hr : (execOp a.eval o).run P w = .ok .skip w') (h : K (a.put o.dst undef) w') : o.wp P a w K Q := by
  unfold Oper.wp; rw [hr]; exact h
theorem run_call {P : Program} {Q : Exit → Act → World → Prop} {o : Oper} {a : Act} {w : World} {K : Act → World → Prop} {f : FuncId} {xs : Array Operand} {ts : Array TypeId} (ho : o.op = .call { callee := .value (.func f), args := xs, argTypes := ts })
    {fn : Func} (hfn : P.funcs[f]? = some fn) (hn : (fn.name == "runtime.NumGoroutine") = false) (hb : fn.body.isSome = true) (args : Array Value) (hx : xs.map a.eval = args) (h : Calls P f args w fun e w' => ∃ v, e = .returned v ∧ K (a.put o.dst v) w') : o.wp P a w K Q := by
  subst hx
  unfold Oper.wp
  have hf : a.eval (.func f) = .func (.func f) #[] #[] := rfl
  simp only [execOp, ho, resolve, hf, Deferred.ofValue]
  have hn' : ¬ fn.name = "runtime.NumGoroutine" := by simpa using hn
  have hb' : ¬ fn.body = none := by intro e; rw [e] at hb; cases hb
  simp [invoke, callFunc, Oper.upon, hfn, hn', hb', Result.andThen]
  refine Calls.mono h ?_
  rintro e w' ⟨v, rfl, hk⟩
  exact hk

section
variable {P : Program} {Q : Exit → Act → World → Prop} {base : List (Tmp × Value)} {dsts : List (Option Tmp)} {S : World → Prop} {fs : List FactP} {i : Nat} {o : Oper}
theorem srt_val {a : Act} {w : World} {x : Operand} {v : Value} (h : SrcT base dsts fs o x v) (hb : ∀ t v, base.lookup t = some v → a.tmps.getD t undef = v)
    (hd : ∀ j d, dsts[j]? = some (some d) → depT o j = true → factP fs j (a.tmps.getD d undef) w) : a.eval x = v := by
  rcases h with ⟨t, rfl, h⟩ | ⟨j, d, rfl, h1, h2, h3⟩ | rfl
  · exact hb t v h
  · have := hd j d h1 h2
    rw [h3] at this; exact this
  · rfl
theorem srts_val {a : Act} {w : World} (hB : ∀ t v, base.lookup t = some v → a.tmps.getD t undef = v) (hD : ∀ j d, dsts[j]? = some (some d) → depT o j = true → factP fs j (a.tmps.getD d undef) w) : ∀ (l : List Operand) (r : List Value), SrcsT base dsts fs o l r → l.map a.eval = r := fun l => by
  induction l with
  | nil => intro r h; cases r with
    | nil => rfl
    | cons v r => exact h.elim
  | cons x l ih => intro r h; cases r with
    | nil => exact h.elim
    | cons v r => rw [List.map_cons, srt_val h.1 hB hD, ih r h.2]

/-- An operation that yields v of what its operands read as, in whatever world meets S. -/
theorem obt_run (v : Value) (hf : factP fs i = isV v) (hg : o.guard = none) (hr : ∀ (ρ : Operand → Value) (w : World), S w → (∀ x u, SrcT base dsts fs o x u → ρ x = u) → (execOp ρ o).run P w = .ok (.value v) w) : Obt P Q base dsts S fs i o :=
  fun a w hS hB hD K hK => ⟨.inl hg, run_value v (hr a.eval w hS fun x u hx => srt_val hx hB hD) (hK _ _ hS (fun _ _ h => h) (by rw [hf]; rfl))⟩
theorem obt_move {x : Operand} (v : Value) (ho : o.op = .move x) (hf : factP fs i = isV v) (hg : o.guard = none) (hx : SrcT base dsts fs o x v) : Obt P Q base dsts S fs i o :=
  obt_run v hf hg fun a w _ hs => by unfold execOp; rw [ho]; simp only [hs x v hx]; rfl
theorem obt_none (v : Value) (hf : factP fs i = isV v) (hg : o.guard = none) (hr : ∀ (ρ : Operand → Value) (w : World), S w → (execOp ρ o).run P w = .ok (.value v) w) : Obt P Q base dsts S fs i o :=
  obt_run v hf hg fun ρ w hS _ => hr ρ w hS
theorem obt_one {x : Operand} {u : Value} (v : Value) (hf : factP fs i = isV v) (hg : o.guard = none) (hx : SrcT base dsts fs o x u) (hr : ∀ (ρ : Operand → Value) (w : World), S w → ρ x = u → (execOp ρ o).run P w = .ok (.value v) w) : Obt P Q base dsts S fs i o :=
  obt_run v hf hg fun ρ w hS hs => hr ρ w hS (hs x u hx)
theorem obt_two {x y : Operand} {u t : Value} (v : Value) (hf : factP fs i = isV v) (hg : o.guard = none) (hx : SrcT base dsts fs o x u) (hy' : SrcT base dsts fs o y t) (hr : ∀ (ρ : Operand → Value) (w : World), S w → ρ x = u → ρ y = t → (execOp ρ o).run P w = .ok (.value v) w) : Obt P Q base dsts S fs i o :=
  obt_run v hf hg fun ρ w hS hs => hr ρ w hS (hs x u hx) (hs y t hy')
/-- An operation that makes memory. -/
theorem obt_make (hst : ∀ f ∈ fs, StableP f) (hg : o.guard = none) (hr : ∀ (a : Act) (w : World), S w → (∀ x u, SrcT base dsts fs o x u → a.eval x = u) → ∃ v w', (execOp a.eval o).run P w = .ok (.value v) w' ∧ S w' ∧ Below w.heap.size w w' ∧ factP fs i v w') : Obt P Q base dsts S fs i o :=
  fun a w hS hB hD K hK => by
    obtain ⟨v, w', h1, h2, h3, h4⟩ := hr a w hS fun x u hx => srt_val hx hB hD
    exact ⟨.inl hg, run_value v h1 (hK _ _ h2 (fun j u h => stable_all hst j u _ _ h3 h) h4)⟩
/-- A call, its arguments all values. -/
theorem obt_call {f : FuncId} {xs : Array Operand} {ts : Array TypeId} {fn : Func} (hst : ∀ f ∈ fs, StableP f) (args : List Value) (ho : o.op = .call { callee := .value (.func f), args := xs, argTypes := ts }) (hfn : P.funcs[f]? = some fn) (hn : (fn.name == "runtime.NumGoroutine") = false) (hb : fn.body.isSome = true)
    (hg : o.guard = none) (hx : SrcsT base dsts fs o xs.toList args)
    (hc : ∀ w, S w → Calls P f args.toArray w fun e w' => ∃ v, e = .returned v ∧ S w' ∧ Below w.heap.size w w' ∧ factP fs i v w') : Obt P Q base dsts S fs i o :=
  fun a w hS hB hD K hK => ⟨.inl hg, run_call ho hfn hn hb args.toArray (by
    rw [← srts_val hB hD _ _ hx]; exact Array.toList_inj.1 (by simp)) ((hc w hS).mono fun e w' ⟨v, he, h1, h2, h3⟩ => ⟨v, he, hK _ _ h1 (fun j u h => stable_all hst j u _ _ h2 h) h3⟩)⟩
/-- A call of two arguments, the first of which a forerunner has made; .. the second of which. -/
theorem obt_call_l {f : FuncId} {d : Tmp} {y : Operand} {ts : Array TypeId} {fn : Func} {u : Value} (hst : ∀ f ∈ fs, StableP f) (j : Nat) (ho : o.op = .call { callee := .value (.func f), args := #[.tmp d, y], argTypes := ts }) (hfn : P.funcs[f]? = some fn) (hn : (fn.name == "runtime.NumGoroutine") = false) (hb : fn.body.isSome = true)
    (hg : o.guard = none) (h1 : dsts[j]? = some (some d)) (h2 : depT o j = true) (hx : SrcT base dsts fs o y u)
    (hc : ∀ v w, S w → factP fs j v w → Calls P f #[v, u] w fun e w' => ∃ r, e = .returned r ∧ S w' ∧ Below w.heap.size w w' ∧ factP fs i r w') : Obt P Q base dsts S fs i o :=
  fun a w hS hB hD K hK => ⟨.inl hg, run_call ho hfn hn hb #[a.tmps.getD d undef, u] (by
    have := srt_val hx hB hD
    simp only [List.map_toArray, List.map_cons, List.map_nil, this]; rfl) ((hc _ w hS (hD j d h1 h2)).mono fun e w' ⟨v, he, g1, g2, g3⟩ => ⟨v, he, hK _ _ g1 (fun j u h => stable_all hst j u _ _ g2 h) g3⟩)⟩
theorem obt_call_r {f : FuncId} {d : Tmp} {y : Operand} {ts : Array TypeId} {fn : Func} {u : Value} (hst : ∀ f ∈ fs, StableP f) (j : Nat) (ho : o.op = .call { callee := .value (.func f), args := #[y, .tmp d], argTypes := ts }) (hfn : P.funcs[f]? = some fn) (hn : (fn.name == "runtime.NumGoroutine") = false) (hb : fn.body.isSome = true)
    (hg : o.guard = none) (h1 : dsts[j]? = some (some d)) (h2 : depT o j = true) (hx : SrcT base dsts fs o y u)
    (hc : ∀ v w, S w → factP fs j v w → Calls P f #[u, v] w fun e w' => ∃ r, e = .returned r ∧ S w' ∧ Below w.heap.size w w' ∧ factP fs i r w') : Obt P Q base dsts S fs i o :=
  fun a w hS hB hD K hK => ⟨.inl hg, run_call ho hfn hn hb #[u, a.tmps.getD d undef] (by
    have := srt_val hx hB hD
    simp only [List.map_toArray, List.map_cons, List.map_nil, this]; rfl) ((hc _ w hS (hD j d h1 h2)).mono fun e w' ⟨v, he, g1, g2, g3⟩ => ⟨v, he, hK _ _ g1 (fun j u h => stable_all hst j u _ _ g2 h) g3⟩)⟩

/-- The last operation: an assignment of what a forerunner has left. -/
theorem tail_assign {last : Oper} {a' : Act} {w' : World} {x : Operand} {v : Value} (ho : last.op = .assign x) (hx : a'.eval x = v) (hq : Q .normal (a'.put last.dst v) w') (K : Act → World → Prop) (hK : ∀ v w2, Q .normal (a'.put last.dst v) w2 → K (a'.put last.dst v) w2) : last.wp P a' w' K Q :=
  run_value v (by unfold execOp; rw [ho]; simp only [hx]; rfl) (hK v w' hq)
/-- A frame that is written out. -/
def frameAt (a : Act) : Nat → List Value → Prop
  | _, [] => True
  | k, x :: r => a.tmps.getD k undef = x ∧ frameAt a (k + 1) r
theorem frameAt_get (a : Act) : ∀ (l : List Value) (k i : Nat) (x : Value), frameAt a k l → l[i]? = some x → a.tmps.getD (k + i) undef = x
  | [], k, i, x, _, h => by simp at h
  | y :: r, k, i, x, hf, h => by
    cases i with
    | zero => simp only [List.getElem?_cons_zero, Option.some.injEq] at h; subst h; exact hf.1
    | succ i =>
      simp only [List.getElem?_cons_succ] at h
      have := frameAt_get a r (k + 1) i x hf.2 h
      rwa [show k + 1 + i = k + (i + 1) by omega] at this
theorem frame_eq {a : Act} (l : List Value) {ds : List Deferred} (hs : a.tmps.size = l.length) (hd : a.defers = ds) (h : frameAt a 0 l) : a = ⟨l.toArray, ds⟩ := by
  obtain ⟨ts, df⟩ := a
  simp only at hs hd
  subst hd
  congr 1
  apply Array.ext
  · simpa using hs
  · intro i h1 h2
    have hl : l[i]? = some l[i] := List.getElem?_eq_getElem (by simpa using h2)
    have := frameAt_get _ l 0 i _ h hl
    rw [Nat.zero_add] at this
    simp only [Array.getD_eq_getD_getElem?, Array.getElem?_eq_getElem h1, Option.getD_some] at this
    rw [this]; simp
end
end Go.Proofs.Ytpinkjgpdapgeaa
/-
  Line numbers: lineNumber, l03Least, LineOf of both.
-/
namespace Go.Proofs.Ytpinkjgpdapgeaa
open Go.RowKit

def least (dy cols : Int) : Int := min 0 (-dy * (cols - 1))
/-- The number of a cell's line. -/
def lnum (dx dy cols y x : Int) : Int := dx * y - dy * x - least dy cols
structure Near (dx dy : Int) : Prop where
  x1 : 0 ≤ dx
  x2 : dx ≤ 3
  y1 : -3 ≤ dy
  y2 : dy ≤ 3
theorem near_of {dx dy : Int} (h : dirOk dx dy = true) : Near dx dy := by
  simp only [dirOk, Bool.and_eq_true, decide_eq_true_eq] at h
  obtain ⟨⟨⟨⟨h1, h2⟩, h3, h4⟩, -⟩, -⟩ := h
  exact ⟨h1, h2, h3, h4⟩
theorem mul_dx {a b : Int} (h1 : 0 ≤ a) (h2 : a ≤ 3) (h3 : 0 ≤ b) (h4 : b ≤ 5) : 0 ≤ a * b ∧ a * b ≤ 15 := by
  have : a = 0 ∨ a = 1 ∨ a = 2 ∨ a = 3 := by omega
  rcases this with rfl | rfl | rfl | rfl <;> omega
theorem mul_dy {a b : Int} (h1 : -3 ≤ a) (h2 : a ≤ 3) (h3 : 0 ≤ b) (h4 : b ≤ 5) : -15 ≤ a * b ∧ a * b ≤ 15 := by
  have : a = -3 ∨ a = -2 ∨ a = -1 ∨ a = 0 ∨ a = 1 ∨ a = 2 ∨ a = 3 := by omega
  rcases this with rfl | rfl | rfl | rfl | rfl | rfl | rfl <;> omega

end Go.Proofs.Ytpinkjgpdapgeaa
/-
  LineOf, of the model and of the program.
-/
namespace Go.Proofs.Ytpinkjgpdapgeaa
open Go.RowKit

def sizeOk (r c : Int) : Bool := decide (1 ≤ r ∧ r ≤ 5) && decide (1 ≤ c ∧ c ≤ 5)
theorem sizeOk_yes {r c : Int} (h : sizeOk r c = true) : (1 ≤ r ∧ r ≤ 5) ∧ (1 ≤ c ∧ c ≤ 5) := by simpa [sizeOk] using h
theorem set_get {ts : Array Value} {d n : Tmp} {v : Value} (hs : ts.size = n) (hd : d < n) : (ts.setIfInBounds d v).getD d undef = v := by
  have : d < ts.size := Nat.lt_of_lt_of_eq hd hs.symm
  simp [this]

/-- What LineOf returns. -/
def lineOf (rows cols dx dy y x : Int) : Int := if (sizeOk rows cols = true ∧ dirOk dx dy = true) ∧ (0 ≤ y ∧ y < rows) ∧ 0 ≤ x ∧ x < cols then lnum dx dy cols y x else -1
end Go.Proofs.Ytpinkjgpdapgeaa
/-
  SumsOk, of the model and of the program.
-/
namespace Go.Proofs.Ytpinkjgpdapgeaa
open Go.RowKit

def badB (most x : Int) : Bool := decide (x < 0) || decide (most < x)
theorem any_no {p : Int → Bool} {r : List Int} (h : ∀ i, (hi : i < r.length) → p r[i] = false) : r.any p = false := by
  rw [Bool.eq_false_iff]; intro e
  rw [List.any_eq_true] at e
  obtain ⟨x, hx, hp⟩ := e
  obtain ⟨i, hi, rfl⟩ := List.getElem_of_mem hx
  rw [h i hi] at hp; cases hp
theorem any_yes {p : Int → Bool} {r : List Int} (i : Nat) (hi : i < r.length) (h : p r[i] = true) : r.any p = true := List.any_eq_true.2 ⟨_, List.getElem_mem hi, h⟩

def IdxRes (b : Bool) (w : World) (e : Ending) (w' : World) : Prop := ∃ i : Int, e = .returned (.int .i64 i) ∧ -1 ≤ i ∧ b = decide (0 ≤ i) ∧ w = w'
theorem sum_snoc (r : List Int) (k : Nat) (h : k < r.length) : (r.take (k + 1)).sum = (r.take k).sum + r[k] := by
  rw [List.take_succ_eq_append_getElem h, List.sum_append]; simp
def SmallL (r : List Int) : Prop := r.length ≤ 5 ∧ ∀ i, (h : i < r.length) → 0 ≤ r[i] ∧ r[i] ≤ 5
theorem sum_small {r : List Int} (h : SmallL r) : ∀ k, k ≤ r.length → 0 ≤ (r.take k).sum ∧ (r.take k).sum ≤ 5 * k := by
  intro k
  induction k with
  | zero => intro _; simp
  | succ k ih =>
    intro hk
    have := ih (by omega)
    have := h.2 k (by omega)
    rw [sum_snoc r k (by omega)]; omega
set_option maxHeartbeats 400000 in
theorem totalOf_any (v : Value) (r : List Int) (w : World) (hin : InRow w v r) (hs : SmallL r) :
    Calls Try.prog 24 #[v] w fun e w' => e = .returned (.int .i64 r.sum) ∧ w = w' := by
  obtain ⟨a, c, rfl, hm, hp⟩ := hin
  unfold maxLen at hm
  have HS := hide hs
  by_cases h0 : r.length = 0
  · have hr : r = [] := List.eq_nil_of_length_eq_zero h0
    subst hr
    clear hp h0 hm hs
    go_enter Try.func24, Try.ntmps24
    go_wp2
    go_loop [3, 8] (fun s i => s = .int .i64 0 ∧ i = .int .i64 0) (fun _ _ => 0)
    case atStart => exact ⟨rfl, rfl⟩
    case round =>
      obtain ⟨rfl, rfl⟩ := hrel
      go_wp2
      go_ret
      exact ⟨rfl, rfl⟩
  · obtain ⟨g, o, rfl, hg, hc⟩ := hp.resolve_left h0
    have HC := hide hc
    have h5 := hs.1
    obtain ⟨n, hn⟩ : ∃ n, n = r.length := ⟨_, rfl⟩
    have HN := hide hn
    rw [← hn] at hm h5 ⊢
    clear hp hc h0 hn hs
    go_enter Try.func24, Try.ntmps24
    go_wp2
    go_loop [3, 8] (fun s i => ∃ k : Nat, k ≤ n ∧ i = .int .i64 k ∧ s = .int .i64 (r.take k).sum) (fun _ i => n - (intOf i).toNat)
    case atStart => exact ⟨0, Nat.zero_le _, rfl, rfl⟩
    case round =>
      obtain ⟨k, hk, rfl, rfl⟩ := hrel
      obtain ⟨b1, b2⟩ := sum_small HS.out k (by rw [← HN.out]; exact hk)
      by_cases hlt : k < n
      · have hk' : k < r.length := by rw [← HN.out]; exact hlt
        have hx := HC.out k hk'
        have HST := hide (sum_snoc r k hk')
        obtain ⟨b3, b4⟩ := HS.out.2 k hk'
        obtain ⟨x, hxx⟩ : ∃ x, x = r[k] := ⟨_, rfl⟩
        obtain ⟨S, hSS⟩ : ∃ S, S = (r.take k).sum := ⟨_, rfl⟩
        rw [← hxx] at hx HST b3 b4
        rw [← hSS] at HST b1 b2 ⊢
        clear hxx hSS
        go_wp2
        go_round
        case rel => exact ⟨k + 1, by omega, by go_num, by rw [HST.out]⟩
        case measure => simp [intOf]; omega
      · have HE : Hid ((r.take k).sum = r.sum) := hide (by rw [List.take_of_length_le (by have := HN.out; omega)])
        rw [HE.out]
        clear b1 b2
        go_wp2
        go_ret
        exact ⟨rfl, rfl⟩

/-- What SumsOk returns. -/
def sumsOk (r c : List Int) : Bool := sizeOk r.length c.length && !r.any (badB c.length) && !c.any (badB r.length) && r.sum == c.sum
theorem small_of {r : List Int} {m : Int} (hl : r.length ≤ 5) (hm : m ≤ 5) (h : r.any (badB m) = false) : SmallL r := by
  refine ⟨hl, fun i hi => ?_⟩
  rw [List.any_eq_false] at h
  have := h _ (List.getElem_mem hi)
  simp only [badB, Bool.or_eq_true, decide_eq_true_eq, not_or] at this
  omega
theorem bad_in (m x : Int) : decide (0 ≤ x ∧ x ≤ m) = !badB m x := by
  unfold badB
  by_cases h : 0 ≤ x ∧ x ≤ m
  · rw [decide_eq_true h, decide_eq_false (by omega), decide_eq_false (by omega)]; rfl
  · rw [decide_eq_false h]
    by_cases h1 : x < 0
    · rw [decide_eq_true h1]; rfl
    · rw [decide_eq_false h1, decide_eq_true (by omega : m < x)]; rfl
end Go.Proofs.Ytpinkjgpdapgeaa
/-
  The exact law on SumsOk, walked.
-/
namespace Go.Proofs.Ytpinkjgpdapgeaa
open Go.RowKit
set_option linter.unusedVariables false

/-- What 'open_ints' hands over. -/
theorem inRow_of {w : World} {x : Addr} {l c : Nat} {zs : List Int} (hl : l ≤ c) (hm : c ≤ maxLen) (hz : zs.length = c) (hcell : ∀ i, i < zs.length → w.cell? (x.add i) = some (.int .i64 (zs.getD i 0))) : InRow w (.slice (some x) l c) (zs.take l) := by
  have hlen : (zs.take l).length = l := by rw [List.length_take]; omega
  refine ⟨some x, c, by rw [hlen], by omega, ?_⟩
  by_cases h0 : l = 0
  · exact .inl (by omega)
  · refine .inr ?_
    obtain ⟨g, o, spot⟩ := x
    have hc := hcell 0 (by omega)
    have hspot : spot = none := by simpa [Addr.add] using World.cell?_spot hc
    subst hspot
    refine ⟨g, o, rfl, by have := World.block_lt_of_cell? w _ hc; simpa [Addr.add] using this, fun i hi => ?_⟩
    have := hcell i (by omega)
    rw [addr_add] at this
    rw [this, List.getElem_take, List.getD_eq_getElem?_getD, List.getElem?_eq_getElem (by omega)]; rfl

end Go.Proofs.Ytpinkjgpdapgeaa
/-
  ConjugateOf, of the model and of the program.
-/
namespace Go.Proofs.Ytpinkjgpdapgeaa
open Go.RowKit

/-- The list g 0, .., g (n - 1). -/
def tabL (n : Nat) (g : Nat → Int) : List Int := (List.range n).map g
theorem tabL_len (n : Nat) (g : Nat → Int) : (tabL n g).length = n := by simp [tabL]
theorem tabL_at {n : Nat} {g : Nat → Int} {i : Nat} (h : i < (tabL n g).length) : (tabL n g)[i] = g i := by simp [tabL]
theorem tabL_congr {n : Nat} {g h : Nat → Int} (e : ∀ i, i < n → g i = h i) : tabL n g = tabL n h := by
  unfold tabL; exact List.map_congr_left fun i hi => e i (List.mem_range.1 hi)
theorem tabL_set (n : Nat) (g : Nat → Int) (k : Nat) (y : Int) : (tabL n g).set k y = tabL n fun t => if t = k then y else g t := by
  apply List.ext_getElem
  · simp [tabL]
  · intro i h1 h2
    rw [List.getElem_set, tabL_at h2]
    by_cases e : k = i
    · rw [if_pos e, if_pos e.symm]
    · rw [if_neg e, tabL_at, if_neg (fun h => e h.symm)]
theorem tabL_zero (n : Nat) : List.replicate n (Value.int .i64 0) = ints (tabL n fun _ => 0) := by
  apply List.ext_getElem
  · simp [ints, tabL]
  · intro i h1 h2; simp [ints, tabL]
theorem tabL_held {n : Nat} {g : Nat → Int} {i : Nat} (h : i < n) : (ints (tabL n g)).getD i undef = .int .i64 (g i) := by
  rw [List.getD_eq_getElem?_getD, ints_at _ _ (by rw [tabL_len]; exact h), tabL_at]; rfl

/-- How many of l are at least t. -/
def atLeast (t : Int) (l : List Int) : Nat := l.countP fun x => decide (t ≤ x)
theorem atLeast_le (t : Int) (l : List Int) : atLeast t l ≤ l.length := List.countP_le_length
theorem atLeast_take (t : Int) (l : List Int) (k : Nat) (h : k < l.length) : atLeast t (l.take (k + 1)) = atLeast t (l.take k) + if t ≤ l[k] then 1 else 0 := by
  rw [atLeast, List.take_succ_eq_append_getElem h, List.countP_append]
  simp [atLeast]
/-- What ConjugateOf returns. -/
def conjL (l : List Int) (n : Nat) : List Int := tabL n fun k => ((atLeast (k + 1) l : Nat) : Int)
def conjOk (l : List Int) (n : Int) : Bool := decide (1 ≤ n ∧ n ≤ 5) && (decide (l.length ≤ 5) && !l.any (badB n))
def conjRes (l : List Int) (n : Int) : List Int := if conjOk l n = true then conjL l n.toNat else []
theorem conj_no1 {l : List Int} {n : Int} (h : ¬ (1 ≤ n ∧ n ≤ 5)) : conjRes l n = [] := by rw [conjRes, conjOk, decide_eq_false h]; rfl
theorem conj_no2 {l : List Int} {n : Int} (h : 5 < l.length) : conjRes l n = [] := by rw [conjRes, conjOk, decide_eq_false (show ¬ l.length ≤ 5 by omega)]; simp
theorem conj_no3 {l : List Int} {n : Int} (h : l.any (badB n) = true) : conjRes l n = [] := by rw [conjRes, conjOk, h]; simp
theorem conj_yes {l : List Int} {n : Nat} (h1 : 1 ≤ n ∧ n ≤ 5) (h2 : l.length ≤ 5) (h : l.any (badB n) = false) : conjRes l n = conjL l n := by
  rw [conjRes, conjOk, h, decide_eq_true h2, decide_eq_true (show (1 : Int) ≤ n ∧ (n : Int) ≤ 5 by omega)]; simp

/-- .. and nil where there are none. -/
def IntsNil (r : List Int) (w : World) (e : Ending) (w' : World) : Prop := IntsRes r w e w' ∧ (r = [] → e = .returned (.slice none 0 0))
end Go.Proofs.Ytpinkjgpdapgeaa
/-
  Lists of integers in descending order, and SortedDown of the model.
-/
namespace Go.Proofs.Ytpinkjgpdapgeaa
open Go.RowKit

def Desc (l : List Int) : Prop := l.Pairwise fun x y => y ≤ x
theorem desc_unique : ∀ {a b : List Int}, a.Perm b → Desc a → Desc b → a = b := by
  intro a
  induction a with
  | nil => intro b hp _ _; exact hp.nil_eq
  | cons x a ih =>
    intro b hp ha hb
    cases b with
    | nil => exact absurd hp.symm.nil_eq (by simp)
    | cons y b =>
      have hxy : x = y := by
        have h1 : x ∈ y :: b := hp.subset (List.mem_cons_self ..)
        have h2 : y ∈ x :: a := hp.symm.subset (List.mem_cons_self ..)
        rw [List.mem_cons] at h1 h2
        rcases h1 with h1 | h1
        · exact h1
        · rcases h2 with h2 | h2
          · exact h2.symm
          · have h3 := (List.pairwise_cons.1 hb).1 x h1
            have h4 := (List.pairwise_cons.1 ha).1 y h2
            omega
      subst hxy
      rw [ih hp.cons_inv (List.pairwise_cons.1 ha).2 (List.pairwise_cons.1 hb).2]
/-- What SortedDown returns. -/
def sortD (l : List Int) : List Int := l.mergeSort fun x y => decide (y ≤ x)
theorem sortD_perm (l : List Int) : (sortD l).Perm l := List.mergeSort_perm l _
theorem sortD_desc (l : List Int) : Desc (sortD l) := by
  have h := List.pairwise_mergeSort (le := fun x y : Int => decide (y ≤ x)) (by simp; omega) (by simp; omega) l
  exact h.imp fun h => by simpa using h
theorem sortD_of {l s : List Int} (hp : s.Perm l) (hs : Desc s) : s = sortD l := desc_unique (hp.trans (sortD_perm l).symm) hs (sortD_desc l)
theorem sortD_len (l : List Int) : (sortD l).length = l.length := (sortD_perm l).length_eq

/-- x among s, at q. -/
def bub (s : List Int) (x : Int) (q : Nat) : List Int := s.take q ++ x :: s.drop q
theorem bub_len {s : List Int} {x : Int} {q : Nat} (h : q ≤ s.length) : (bub s x q).length = s.length + 1 := by simp [bub]; omega
theorem bub_end (s : List Int) (x : Int) : bub s x s.length = s ++ [x] := by simp [bub]
theorem bub_self {s : List Int} {x : Int} {q : Nat} (h : q ≤ s.length) : (ints (bub s x q)).getD q undef = .int .i64 x := by
  rw [List.getD_eq_getElem?_getD, ints_at _ _ (by rw [bub_len h]; omega)]
  simp only [bub, Option.getD_some, Value.int.injEq, true_and]
  rw [List.getElem_append_right (by simp; omega)]
  simp [Nat.min_eq_left h]
theorem bub_eq {s : List Int} {x : Int} {p : Nat} (h : p < s.length) : bub s x (p + 1) = s.take p ++ s[p] :: x :: s.drop (p + 1) := by
  rw [bub, List.take_succ_eq_append_getElem h, List.append_assoc]; rfl
theorem bub_prev {s : List Int} {x : Int} {p : Nat} (h : p < s.length) : (ints (bub s x (p + 1))).getD p undef = .int .i64 s[p] := by
  rw [List.getD_eq_getElem?_getD, ints_at _ _ (by rw [bub_len (by omega)]; omega)]
  simp only [bub_eq h, Option.getD_some, Value.int.injEq, true_and]
  rw [List.getElem_append_right (by simp; omega)]
  simp [Nat.min_eq_left (Nat.le_of_lt h)]
theorem bub_step {s : List Int} {x : Int} {p : Nat} (h : p < s.length) : ((bub s x (p + 1)).set (p + 1) s[p]).set p x = bub s x p := by
  have hl : (s.take p).length = p := by rw [List.length_take]; omega
  rw [bub_eq h, List.set_append_right _ _ (by omega), hl, show p + 1 - p = 0 + 1 by omega, List.set_cons_succ, List.set_cons_zero, List.set_append_right _ _ (by omega), hl, Nat.sub_self, List.set_cons_zero, bub, List.drop_eq_getElem_cons h]
theorem bub_perm (s : List Int) (x : Int) (q : Nat) : (bub s x q).Perm (x :: s) := by
  have h : (bub s x q).Perm (x :: (s.take q ++ s.drop q)) := List.perm_middle
  rwa [List.take_append_drop] at h
theorem bub_desc {s : List Int} {x : Int} {q : Nat} (hq : q ≤ s.length) (hs : Desc s) (h1 : ∀ y ∈ s.drop q, y < x) (h2 : ∀ p, (h : p < s.length) → p + 1 = q → x ≤ s[p]) : Desc (bub s x q) := by
  have hs' := hs
  unfold Desc at hs
  rw [← List.take_append_drop q s, List.pairwise_append] at hs
  obtain ⟨a1, a2, a3⟩ := hs
  have hx : ∀ a ∈ s.take q, x ≤ a := fun a ha => by
    obtain ⟨i, hi, rfl⟩ := List.getElem_of_mem ha
    rw [List.length_take] at hi
    rw [List.getElem_take]
    have h3 := h2 (q - 1) (by omega) (by omega)
    by_cases e : i = q - 1
    · subst e; exact h3
    · have := List.pairwise_iff_getElem.1 hs' i (q - 1) (by omega) (by omega) (by omega)
      omega
  refine List.pairwise_append.2 ⟨a1, List.pairwise_cons.2 ⟨fun y hy => by have := h1 y hy; omega, a2⟩, fun a ha b hb => ?_⟩
  rcases List.mem_cons.1 hb with rfl | hb
  · exact hx a ha
  · exact a3 a ha b hb

end Go.Proofs.Ytpinkjgpdapgeaa
/-
  The columns by their sums: the greatest first, of equal ones those further to the left.
-/
namespace Go.Proofs.Ytpinkjgpdapgeaa
open Go.RowKit

/-- A column's place in the order, as a number: the greater the earlier. -/
def keyF (c : List Int) (i : Nat) : Int := c.getD i 0 * 8 + (7 - (i : Int))
theorem keyF_inj {c : List Int} {i j : Nat} (hi : i < 8) (hj : j < 8) (h : keyF c i = keyF c j) : i = j := by unfold keyF at h; omega
/-- The order of the columns. -/
def sortK (c : List Int) : List Nat := (List.range c.length).mergeSort fun i j => decide (keyF c j ≤ keyF c i)
theorem sortK_perm (c : List Int) : (sortK c).Perm (List.range c.length) := List.mergeSort_perm _ _
theorem sortK_len (c : List Int) : (sortK c).length = c.length := by rw [(sortK_perm c).length_eq, List.length_range]
theorem sortK_desc (c : List Int) : (sortK c).Pairwise fun i j => keyF c j ≤ keyF c i := by
  have h := List.pairwise_mergeSort (le := fun i j : Nat => decide (keyF c j ≤ keyF c i)) (by simp; omega) (by simp; omega) (List.range c.length)
  exact h.imp fun h => by simpa using h
theorem sortK_mem {c : List Int} {i : Nat} : i ∈ sortK c ↔ i < c.length := by rw [(sortK_perm c).mem_iff, List.mem_range]
theorem sortK_nodup (c : List Int) : (sortK c).Nodup := (sortK_perm c).nodup_iff.2 List.nodup_range
theorem map_inj_of {k : Nat → Int} {p : Nat → Prop} (hk : ∀ i j, p i → p j → k i = k j → i = j) : ∀ {s t : List Nat}, (∀ i ∈ s, p i) → (∀ i ∈ t, p i) → s.map k = t.map k → s = t
  | [], [], _, _, _ => rfl
  | [], y :: t, _, _, h => by simp at h
  | x :: s, [], _, _, h => by simp at h
  | x :: s, y :: t, hs, ht, h => by
    simp only [List.map_cons, List.cons.injEq] at h
    rw [hk x y (hs x List.mem_cons_self) (ht y List.mem_cons_self) h.1, map_inj_of hk (fun i hi => hs i (List.mem_cons_of_mem _ hi)) (fun i hi => ht i (List.mem_cons_of_mem _ hi)) h.2]
theorem sortK_of {c : List Int} {s : List Nat} (hc : c.length ≤ 8) (hp : s.Perm (List.range c.length)) (hd : s.Pairwise fun i j => keyF c j ≤ keyF c i) : s = sortK c := by
  refine map_inj_of (k := keyF c) (p := fun i => i < c.length) (fun i j hi hj h => keyF_inj (by omega) (by omega) h) (fun i hi => by rw [hp.mem_iff, List.mem_range] at hi; exact hi) (fun i hi => sortK_mem.1 hi) ?_
  exact desc_unique ((hp.trans (sortK_perm c).symm).map _) (List.pairwise_map.2 hd) (List.pairwise_map.2 (sortK_desc c))
/-- The row whose n black cells stand in the first columns of the order. -/
def topF (c : List Int) (n x : Nat) : Int := if x ∈ (sortK c).take n then 1 else 0
def topRow (c : List Int) (n : Nat) : List Int := tabL c.length (topF c n)
theorem topRow_len (c : List Int) (n : Nat) : (topRow c n).length = c.length := tabL_len _ _
theorem topF_zero (c : List Int) (x : Nat) : topF c 0 x = 0 := by rw [topF, if_neg (by simp)]
theorem topF_succ {c : List Int} {n : Nat} (h : n < (sortK c).length) (x : Nat) : topF c (n + 1) x = if x = (sortK c)[n] then 1 else topF c n x := by
  unfold topF
  rw [List.take_succ_eq_append_getElem h]
  by_cases e : x = (sortK c)[n]
  · rw [if_pos e, if_pos (by rw [List.mem_append]; right; simp [e])]
  · rw [if_neg e]
    by_cases e2 : x ∈ (sortK c).take n
    · rw [if_pos e2, if_pos (List.mem_append_left _ e2)]
    · rw [if_neg e2, if_neg (by rw [List.mem_append]; rintro (h | h); exact e2 h; exact e (by simpa using h))]
theorem topF_next {c : List Int} {n : Nat} (h : n < (sortK c).length) : topF c n (sortK c)[n] = 0 := by
  rw [topF, if_neg]
  intro hm
  obtain ⟨i, hi, he⟩ := List.getElem_of_mem hm
  rw [List.length_take] at hi
  rw [List.getElem_take] at he
  have := (List.nodup_iff_pairwise_ne.1 (sortK_nodup c))
  have := List.pairwise_iff_getElem.1 this i n (by omega) h (by omega)
  exact this he
/-- The next column is the first one of those that are white yet. -/
theorem next_of {c : List Int} {n b : Nat} (hc : c.length ≤ 8) (h : n < (sortK c).length) (hb : b < c.length) (hw : topF c n b = 0) (hall : ∀ t, t < c.length → topF c n t = 0 → keyF c t ≤ keyF c b) : b = (sortK c)[n] := by
  have hn : (sortK c)[n] < c.length := sortK_mem.1 (List.getElem_mem h)
  have h1 := hall _ hn (topF_next h)
  obtain ⟨i, hi, he⟩ := List.getElem_of_mem (sortK_mem.2 hb)
  have hni : n ≤ i := by
    rcases Nat.lt_or_ge i n with h2 | h2
    · exfalso
      rw [topF, if_pos] at hw
      · cases hw
      · rw [← he]
        refine List.mem_of_getElem (i := i) (h := by rw [List.length_take]; omega) ?_
        rw [List.getElem_take]
    · exact h2
  by_cases e : n = i
  · subst e; exact he.symm
  · have h2 := List.pairwise_iff_getElem.1 (sortK_desc c) n i h hi (by omega)
    rw [he] at h2
    exact keyF_inj (c := c) (by omega) (by omega) (by omega)

open Go.Sort in
theorem insInner_congr {α : Type} [Inhabited α] (lt lt' : α → α → Bool) (a : Nat) : ∀ (j : Nat) (d : Array α), j < d.size → (∀ k, k < j → lt d[j]! d[k]! = lt' d[j]! d[k]!) → insInner lt a j d = insInner lt' a j d
  | 0, _, _, _ => rfl
  | j + 1, d, hj, h => by
    unfold insInner
    rw [h j (Nat.lt_succ_self _)]
    have ih := insInner_congr lt lt' a j (swp d (j + 1) j) (by rw [swp_size]; omega) (fun k hk => by
      rw [swp_get d hj (by omega), swp_get d hj (by omega), if_pos rfl, if_neg (by omega), if_neg (by omega)]
      exact h k (by omega))
    rw [ih]
open Go.Sort in
theorem insInner_keeps {α : Type} [Inhabited α] (lt : α → α → Bool) (a : Nat) (p : α → Prop) (i : Nat) : ∀ (j : Nat) (d : Array α), j ≤ i → i < d.size → (∀ k, k ≤ i → p d[k]!) →
    (insInner lt a j d).size = d.size ∧ (∀ k, k ≤ i → p (insInner lt a j d)[k]!) ∧ ∀ k, i < k → (insInner lt a j d)[k]! = d[k]!
  | 0, d, _, _, h => ⟨rfl, h, fun _ _ => rfl⟩
  | j + 1, d, hj, hi, h => by
    unfold insInner
    split
    · obtain ⟨h1, h2, h3⟩ := insInner_keeps lt a p i j (swp d (j + 1) j) (by omega) (by rw [swp_size]; exact hi) (fun k hk => by
        rw [swp_get d (by omega) (by omega)]
        split
        · exact h _ (by omega)
        · split
          · exact h _ (by omega)
          · exact h _ hk)
      refine ⟨by rw [h1, swp_size], h2, fun k hk => ?_⟩
      rw [h3 k hk, swp_get d (by omega) (by omega), if_neg (by omega), if_neg (by omega)]
    · exact ⟨rfl, h, fun _ _ => rfl⟩
/-- Two orders that agree wherever the left one came in later sort alike. -/
theorem insOuter_congr {C : Nat} [Inhabited (Fin C)] (lt lt' : Fin C → Fin C → Bool) (h : ∀ x y : Fin C, y.val < x.val → lt x y = lt' x y) : ∀ (m i : Nat) (d : Array (Fin C)), C - i = m → i ≤ C → d.size = C → (∀ k, k < i → (d[k]!).val < i) → (∀ k, i ≤ k → k < C → (d[k]!).val = k) →
    Go.Sort.insOuter lt 0 C i d = Go.Sort.insOuter lt' 0 C i d
  | 0, i, d, hm, hi, hs, _, _ => by
    rw [Go.Sort.insOuter, if_neg (by omega), Go.Sort.insOuter, if_neg (by omega)]
  | m + 1, i, d, hm, hi, hs, hlo, hhi => by
    have hlt : i < C := by omega
    rw [Go.Sort.insOuter, if_pos hlt]
    conv => rhs; rw [Go.Sort.insOuter, if_pos hlt]
    have e : Go.Sort.insInner lt 0 i d = Go.Sort.insInner lt' 0 i d := insInner_congr lt lt' 0 i d (by omega) fun k hk => h _ _ (by rw [hhi i (Nat.le_refl _) hlt]; exact hlo k hk)
    rw [e]
    obtain ⟨h1, h2, h3⟩ := insInner_keeps lt' 0 (fun x => x.val < i + 1) i i d (Nat.le_refl _) (by omega) (fun k hk => by
      by_cases e : k = i
      · subst e; rw [hhi k (Nat.le_refl _) hlt]; omega
      · have := hlo k (by omega); omega)
    exact insOuter_congr lt lt' h m (i + 1) _ (by omega) (by omega) (by rw [h1]; exact hs) (fun k hk => h2 k (by omega)) (fun k hk1 hk2 => by rw [h3 k (by omega)]; exact hhi k (by omega) hk2)

theorem extract_all {α : Type} (r : Array α) (n : Nat) (h : r.size = n) : r.extract 0 n = r := by subst h; simp
def finsL (C : Nat) : Array (Fin C) := Array.ofFn fun i => i
/-- What the library's stable sort of the columns leaves. -/
theorem insertion_top {c : List Int} [Inhabited (Fin c.length)] (hc : c.length ≤ 8) (lt : Fin c.length → Fin c.length → Bool) (hlt : ∀ x y, lt x y = decide (c.getD y.val 0 < c.getD x.val 0)) :
    (Go.Sort.insertionSort lt (finsL c.length) 0 c.length).toList.map (·.val) = sortK c := by
  have hsz : (finsL c.length).size = c.length := by simp [finsL]
  have hget : ∀ k, k < c.length → ((finsL c.length)[k]!).val = k := fun k hk => by
    rw [getElem!_pos (finsL c.length) k (by rw [hsz]; exact hk)]; simp [finsL]
  let lt' : Fin c.length → Fin c.length → Bool := fun x y => decide (keyF c y.val < keyF c x.val)
  have hcong : Go.Sort.insertionSort lt (finsL c.length) 0 c.length = Go.Sort.insertionSort lt' (finsL c.length) 0 c.length := by
    unfold Go.Sort.insertionSort
    by_cases h0 : c.length = 0
    · rw [Go.Sort.insOuter, if_neg (by omega), Go.Sort.insOuter, if_neg (by omega)]
    · refine insOuter_congr lt lt' (fun x y hxy => ?_) _ 1 _ rfl (by omega) hsz (fun k hk => by rw [hget k (by omega)]; exact hk) (fun k _ hk => hget k hk)
      have hx := x.isLt; have hy := y.isLt
      rw [hlt x y]
      show decide _ = decide (keyF c y.val < keyF c x.val)
      unfold keyF
      by_cases h : c.getD y.val 0 < c.getD x.val 0
      · rw [decide_eq_true h, decide_eq_true (by omega)]
      · rw [decide_eq_false h, decide_eq_false (by omega)]
  rw [hcong]
  have hswo : Go.Sort.SWO lt' := ⟨fun x => by simp [lt'], fun x y z h1 h2 => by simp [lt'] at *; omega, fun x y z h1 h2 => by simp [lt'] at *; omega⟩
  obtain ⟨⟨p1, -, p3⟩, s⟩ := Go.Sort.insertionSort_holds hswo (finsL c.length) 0 c.length (Nat.zero_le _) (by rw [hsz]; exact Nat.le_refl _)
  generalize Go.Sort.insertionSort lt' (finsL c.length) 0 c.length = r at p1 p3 s
  have hr : r.size = c.length := by rw [p1, hsz]
  rw [extract_all r _ hr, extract_all (finsL c.length) _ hsz] at p3
  refine sortK_of hc ?_ ?_
  · have := p3.map (·.val)
    refine this.trans (List.Perm.of_eq ?_)
    apply List.ext_getElem
    · simp [finsL]
    · intro i h1 h2; simp [finsL]
  · refine List.pairwise_map.2 (List.pairwise_iff_getElem.2 fun i j hi hj hij => ?_)
    have hi' : i < r.size := by simpa using hi
    have hj' : j < r.size := by simpa using hj
    have := s i j (Nat.zero_le _) hij (by omega)
    rw [getElem!_pos r i hi', getElem!_pos r j hj'] at this
    simp only [lt', decide_eq_false_iff_not] at this
    simp only [Array.getElem_toList]
    omega
end Go.Proofs.Ytpinkjgpdapgeaa
/-
  l05Fill of the model.
-/
namespace Go.Proofs.Ytpinkjgpdapgeaa
open Go.RowKit

theorem tabL_self (c : List Int) : tabL c.length (fun x => c.getD x 0) = c := by
  apply List.ext_getElem
  · rw [tabL_len]
  · intro i h1 h2
    rw [tabL_at, List.getD_eq_getElem?_getD, List.getElem?_eq_getElem h2]; rfl
/-- What a row leaves of the column sums. -/
def subL (c row : List Int) : List Int := tabL c.length fun x => c.getD x 0 - row.getD x 0
theorem subL_len (c row : List Int) : (subL c row).length = c.length := tabL_len _ _
theorem tabL_getD {n : Nat} {g : Nat → Int} {x : Nat} (h : x < n) : (tabL n g).getD x 0 = g x := by
  rw [List.getD_eq_getElem?_getD, List.getElem?_eq_getElem (by rw [tabL_len]; exact h), tabL_at]; rfl
theorem subL_top (c : List Int) (n : Nat) : subL c (topRow c n) = tabL c.length fun x => c.getD x 0 - topF c n x :=
  tabL_congr fun i hi => by rw [topRow, tabL_getD hi]
theorem top01 (c : List Int) (n x : Nat) : topF c n x = 0 ∨ topF c n x = 1 := by
  unfold topF
  split
  · exact .inr rfl
  · exact .inl rfl
/-- Numbers that are small enough to be reckoned with. -/
def Mid100 (m : Int) (c : List Int) : Prop := c.length ≤ 5 ∧ ∀ x, x < c.length → -m ≤ c.getD x 0 ∧ c.getD x 0 ≤ 100
/-- The image whose rows are chosen one after the other. -/
def imgL (ch : List Int → List Int → List Int) : List Int → List Int → List (List Int)
  | [], _ => []
  | a :: r, c => ch (a :: r) c :: imgL ch r (subL c (ch (a :: r) c))
def greedyCh (r c : List Int) : List Int := topRow c (r.headD 0).toNat
theorem imgL_len (ch : List Int → List Int → List Int) : ∀ (r c : List Int), (imgL ch r c).length = r.length
  | [], _ => rfl
  | a :: r, c => by rw [imgL, List.length_cons, imgL_len ch r, List.length_cons]
/-- What l05Fill returns. -/
def FillRes (c : List Int) (n : Nat) (w : World) (e : Ending) (w' : World) : Prop :=
  ∃ u v, e = .returned (.tuple #[u, v]) ∧ w'.ownsRow w.heap.size 3 1 u c.length (ints (topRow c n)) ∧ w'.ownsRow w.heap.size 3 1 v c.length (ints (subL c (topRow c n))) ∧ Below w.heap.size w w'
/-- The best of the first x columns that are white yet. -/
def BestOf (c : List Int) (n x : Nat) (b : Int) : Prop :=
  (b = -1 ∧ ∀ t, t < x → topF c n t = 1) ∨ ∃ k : Nat, b = k ∧ k < x ∧ topF c n k = 0 ∧ ∀ t, t < x → topF c n t = 0 → keyF c t ≤ keyF c k
theorem best_skip {c : List Int} {n x : Nat} {b : Int} (h : BestOf c n x b) (hx : topF c n x = 1) : BestOf c n (x + 1) b := by
  rcases h with ⟨h1, h2⟩ | ⟨k, h1, h2, h3, h4⟩
  · refine .inl ⟨h1, fun t ht => ?_⟩
    by_cases e : t = x
    · rw [e]; exact hx
    · exact h2 t (by omega)
  · refine .inr ⟨k, h1, by omega, h3, fun t ht h0 => ?_⟩
    by_cases e : t = x
    · rw [e, hx] at h0; cases h0
    · exact h4 t (by omega) h0
theorem best_first {c : List Int} {n x : Nat} (h : BestOf c n x (-1)) (hx : topF c n x = 0) : BestOf c n (x + 1) x := by
  rcases h with ⟨-, h2⟩ | ⟨k, h1, -⟩
  · refine .inr ⟨x, rfl, Nat.lt_succ_self _, hx, fun t ht h0 => ?_⟩
    by_cases e : t = x
    · rw [e]; exact Int.le_refl _
    · rw [h2 t (by omega)] at h0; cases h0
  · omega
theorem best_take {c : List Int} {n x k : Nat} (h : BestOf c n x k) (hx8 : x < 8) (hx : topF c n x = 0) (hgt : c.getD k 0 < c.getD x 0) : BestOf c n (x + 1) x := by
  rcases h with ⟨h1, -⟩ | ⟨k', h1, h2, h3, h4⟩
  · omega
  · obtain rfl : k = k' := by omega
    refine .inr ⟨x, rfl, Nat.lt_succ_self _, hx, fun t ht h0 => ?_⟩
    by_cases e : t = x
    · rw [e]; exact Int.le_refl _
    · have := h4 t (by omega) h0
      unfold keyF at this ⊢
      omega
theorem best_keep {c : List Int} {n x k : Nat} (h : BestOf c n x k) (hgt : ¬ c.getD k 0 < c.getD x 0) : BestOf c n (x + 1) k := by
  rcases h with ⟨h1, -⟩ | ⟨k', h1, h2, h3, h4⟩
  · omega
  · obtain rfl : k = k' := by omega
    refine .inr ⟨k, rfl, by omega, h3, fun t ht h0 => ?_⟩
    by_cases e : t = x
    · subst e; unfold keyF; omega
    · exact h4 t (by omega) h0
theorem best_end {c : List Int} {n : Nat} {b : Int} (hc : c.length ≤ 8) (hn : n < (sortK c).length) (h : BestOf c n c.length b) : b = ((sortK c)[n] : Nat) := by
  rcases h with ⟨-, h2⟩ | ⟨k, h1, h2, h3, h4⟩
  · have := h2 _ (sortK_mem.1 (List.getElem_mem hn))
    rw [topF_next hn] at this; cases this
  · rw [h1, next_of hc hn h2 h3 fun t ht h0 => h4 t ht h0]
theorem next_ex {c : List Int} {n : Nat} (hc : c.length ≤ 8) (hn : n < (sortK c).length) :
    ∃ b, b < c.length ∧ (∀ t, topF c (n + 1) t = if t = b then 1 else topF c n t) ∧ topF c n b = 0 ∧ ∀ q, BestOf c n c.length q → q = (b : Nat) :=
  ⟨(sortK c)[n], sortK_mem.1 (List.getElem_mem hn), fun t => topF_succ hn t, topF_next hn, fun _ h => best_end hc hn h⟩

end Go.Proofs.Ytpinkjgpdapgeaa
