/-
  Texts of this claim, one behind the other: Tail, Obt, Line, LineOf, Sums.
-/
import Derived.Test.YtjnnoabaepmcnaaGreatPackB
/-
  A region that draws its order and whose last operation waits for all others: each met alone, the last one behind them.
-/
namespace Go.Proofs.YtjnnoabaepmcnaaGreat
open Go.RowKit
section
variable {P : Program} {md : Region.Mode} {ops : Array Oper} {Q : Exit → Act → World → Prop}

/-- Each operation but the last has a later one that waits for it. -/
def tails (md : Region.Mode) (l : List Oper) : Bool :=
  (List.range (l.length - 1)).all fun j => (List.range l.length).any fun k => decide (j < k) && (match l[k]? with | some o => o.after.any (fun e => e.on == j && Region.binds md e) | none => false)
def Closed (md : Region.Mode) (ops : Array Oper) (listed : Array Bool) : Prop :=
  ∀ (k : Nat) (o : Oper), ops[k]? = some o → listed.getD k false = true → ∀ e ∈ o.after, Region.binds md e = true → listed.getD e.on false = true
theorem all_before {listed : Array Bool} (ht : tails md ops.toList = true) (hc : Closed md ops listed) {last : Oper} (hl : ops[ops.size - 1]? = some last)
    (hd : ∀ e ∈ last.after, Region.binds md e = true → listed.getD e.on false = true) : ∀ m j, ops.size - 1 - j ≤ m → j < ops.size - 1 → listed.getD j false = true
  | 0, j, hm, hj => by omega
  | m + 1, j, hm, hj => by
    have ht0 := ht
    unfold tails at ht
    rw [List.all_eq_true] at ht
    have := ht j (List.mem_range.2 (by simpa using hj))
    rw [List.any_eq_true] at this
    obtain ⟨k, hk, h⟩ := this
    rw [List.mem_range] at hk
    simp only [Bool.and_eq_true, decide_eq_true_eq] at h
    obtain ⟨hjk, h⟩ := h
    have hk' : k < ops.size := by simpa using hk
    have hko : ops.toList[k]? = some ops[k] := by simp [hk']
    rw [hko] at h
    simp only [Array.any_eq_true, Bool.and_eq_true, beq_iff_eq] at h
    obtain ⟨n, hn, he, hb⟩ := h
    have hmem : ops[k].after[n] ∈ ops[k].after := Array.getElem_mem hn
    by_cases e : k = ops.size - 1
    · subst e
      rw [Array.getElem?_eq_getElem hk'] at hl
      obtain rfl := Option.some.inj hl
      have := hd _ hmem hb
      rw [he] at this; exact this
    · have hkl := all_before ht0 hc hl hd m k (by omega) (by omega)
      have := hc k ops[k] (Array.getElem?_eq_getElem hk') hkl _ hmem hb
      rw [he] at this; exact this

theorem wpAny_tail {a0 : Act} {S : World → Prop} {F : Nat → Value → World → Prop} {last : Oper} (ho : orderly md a0.tmps.size 0 [] ops.toList = true) (ht : tails md ops.toList = true) (hl : ops[ops.size - 1]? = some last)
    (hop : ∀ (i : Nat) (o : Oper), ops[i]? = some o → i < ops.size - 1 → Each P md ops Q a0 S F i o)
    (hlast : ∀ (a : Act) (w : World), a.tmps.size = a0.tmps.size → a.defers = a0.defers → (∀ t, outside ops t = true → a.tmps.getD t undef = a0.tmps.getD t undef) → S w →
      (∀ (i : Nat) (o : Oper) (d : Tmp), ops[i]? = some o → i < ops.size - 1 → o.dst = some d → F i (a.tmps.getD d undef) w) → ∀ K : Act → World → Prop, (∀ a' w', Q .normal a' w' → K a' w') → wpOp P ops Q (ops.size - 1) K a w) :
    ∀ (fuel : Nat) (listed : Array Bool) (a : Act) (w : World), Mid ops a0 S F listed a w → Closed md ops listed → listed.getD (ops.size - 1) true = false → unl listed ops.size ≤ fuel → wpAny P md ops Q fuel listed a w := by
  have hlt0 : ops.size - 1 < ops.size := (Array.getElem?_eq_some_iff.1 hl).1
  have hon : ∀ (i : Nat) (o : Oper), ops[i]? = some o → ∀ e ∈ o.after, Region.binds md e = true → e.on < i := fun i o hi e he hbd => by
    have := orderly_on ops.toList 0 [] ho i o (by simpa using hi) e he hbd; omega
  have hdst : ∀ (i : Nat) (o : Oper) (d : Tmp), ops[i]? = some o → o.dst = some d → d < a0.tmps.size := fun i o d hi hd => (orderly_dst ops.toList 0 [] ho i o d (by simpa using hi) hd).1
  have hone : ∀ (i : Nat) (o : Oper) (d : Tmp), ops[i]? = some o → o.dst = some d → ∀ (j : Nat) (o' : Oper), ops[j]? = some o' → i ≠ j → o'.dst ≠ some d := fun i o d hi hd j o' hj hij e => by
    rcases Nat.lt_or_gt_of_ne hij with h | h
    · exact (orderly_dst ops.toList 0 [] ho i o d (by simpa using hi) hd).2.2 j o' (by simpa using hj) h e
    · exact (orderly_dst ops.toList 0 [] ho j o' d (by simpa using hj) e).2.2 i o (by simpa using hi) h hd
  intro fuel
  induction fuel with
  | zero =>
    intro listed a w hm hcl hul hf
    exfalso
    have := unl_set listed _ hul ops.size
    rw [if_pos hlt0] at this
    omega
  | succ fuel ih =>
    intro listed a w hm hcl hul hf
    refine ⟨fun hr => ?_, fun i hi => ?_⟩
    · exfalso
      have h1 := ready_none hm.size hon hr _ hlt0
      have hlt : ops.size - 1 < listed.size := by have := hm.size; omega
      simp [hlt] at hul h1
      rw [h1] at hul; cases hul
    obtain ⟨hul2, o, ho', hall⟩ := mem_ready.1 hi
    have hlt : i < ops.size := (Array.getElem?_eq_some_iff.1 ho').1
    by_cases e : i = ops.size - 1
    · subst e
      rw [hl] at ho'
      obtain rfl := Option.some.inj ho'
      have hab := fun j hj => all_before ht hcl hl hall _ j (Nat.le_refl _) hj
      refine hlast a w hm.tmps hm.defers hm.out hm.world (fun j oj d hj hjl hd => hm.held j oj d hj hd (hab j hjl)) _ fun a' w' hq => ?_
      have hrd : Region.ready md ops (listed.setIfInBounds (ops.size - 1) true) = [] := by
        rw [List.eq_nil_iff_forall_not_mem]
        intro j hj
        obtain ⟨hl', o', ho'', -⟩ := mem_ready.1 hj
        have hj' : j < ops.size := (Array.getElem?_eq_some_iff.1 ho'').1
        have hls : ops.size - 1 < listed.size := by have := hm.size; omega
        by_cases ej : ops.size - 1 = j
        · subst ej; simp [hls] at hl'
        · rw [getD_set_ne true ej] at hl'
          have h1 := hab j (by omega)
          have hjs : j < listed.size := by have := hm.size; omega
          simp [hjs] at hl' h1
          rw [h1] at hl'; cases hl'
      cases fuel with
      | zero => exact ⟨hrd, hq⟩
      | succ fuel => exact ⟨fun _ => hq, fun j hj => by rw [hrd] at hj; cases hj⟩
    · refine hop i o ho' (by omega) a w hm.tmps hm.defers hm.out hm.world (fun e he hb oe d hoe hd => hm.held e.on oe d hoe hd (hall e he hb)) _ fun v w' hS hst hF => ?_
      have hls : listed.size = ops.size := hm.size
      refine ih _ _ _ ⟨by simp [hm.size], ?_, ?_, fun t ht => ?_, hS, fun j oj d hj hd hlj => ?_⟩ (fun k ok hk hlk e' he' hb' => ?_) ?_ ?_
      · cases o.dst <;> simp [Act.put, hm.tmps]
      · cases o.dst <;> simp [Act.put, hm.defers]
      · rw [← hm.out t ht]
        cases hd : o.dst with
        | none => rfl
        | some d =>
          have hne : d ≠ t := by
            intro e; subst e
            unfold outside at ht
            rw [Array.all_eq_true_iff_forall_mem] at ht
            have := ht o (Array.mem_of_getElem? ho')
            rw [hd] at this; simp at this
          simp [Act.put, Array.getElem?_setIfInBounds_ne hne]
      · by_cases e : i = j
        · subst e
          rw [ho'] at hj
          obtain rfl := Option.some.inj hj
          have hdl : d < a.tmps.size := by rw [hm.tmps]; exact hdst i o d ho' hd
          have : (a.put o.dst v).tmps.getD d undef = v := by rw [hd]; simp [Act.put, hdl]
          rw [this]; exact hF
        · have h1 : listed.getD j false = true := by rw [getD_set_ne false e] at hlj; exact hlj
          have h2 := hm.held j oj d hj hd h1
          have h3 : (a.put o.dst v).tmps.getD d undef = a.tmps.getD d undef := by
            cases hd' : o.dst with
            | none => rfl
            | some d' =>
              have hne : d' ≠ d := fun e' => hone j oj d hj hd i o ho' (Ne.symm e) (by rw [hd', e'])
              simp [Act.put, Array.getElem?_setIfInBounds_ne hne]
          rw [h3]; exact hst j _ h2
      · have hne : i ≠ e'.on ∨ i = e'.on := (Nat.decEq i e'.on).byCases (fun h => .inr h) (fun h => .inl h)
        by_cases ek : i = k
        · subst ek
          rw [ho'] at hk
          obtain rfl := Option.some.inj hk
          have h1 := hall e' he' hb'
          have h2 : i ≠ e'.on := by have := hon i o ho' e' he' hb'; omega
          rw [getD_set_ne false h2]; exact h1
        · rw [getD_set_ne false ek] at hlk
          have h1 := hcl k ok hk hlk e' he' hb'
          by_cases e2 : i = e'.on
          · rw [← e2]; simp [show i < listed.size by omega]
          · rw [getD_set_ne false e2]; exact h1
      · rw [getD_set_ne true e]; exact hul
      · have := unl_set listed i hul2 ops.size
        rw [if_pos hlt] at this; omega

/-- What a slot holds, in a world. -/
abbrev FactP := Value → World → Prop
def isV (v : Value) : FactP := fun u _ => u = v
def factP (fs : List FactP) (i : Nat) : FactP := fs.getD i (isV undef)

def AllOps (ob : Nat → Oper → Prop) : Nat → List Oper → Prop
  | _, [] => True
  | k, o :: r => ob k o ∧ AllOps ob (k + 1) r
theorem allOps_at {ob : Nat → Oper → Prop} : ∀ (l : List Oper) (k : Nat), AllOps ob k l → ∀ (i : Nat) (o : Oper), l[i]? = some o → ob (k + i) o
  | [], _, _, i, o, h => by simp at h
  | x :: r, k, hl, i, o, h => by
    cases i with
    | zero => simp only [List.getElem?_cons_zero, Option.some.injEq] at h; subst h; exact hl.1
    | succ i =>
      simp only [List.getElem?_cons_succ] at h
      have := allOps_at r (k + 1) hl.2 i o h
      rwa [show k + 1 + i = k + (i + 1) by omega] at this

def depT (o : Oper) (j : Nat) : Bool := o.after.any fun e => e.on == j && Region.binds .any e
/-- What is asked of one operation, its forerunners' slots named. -/
def Obt (P : Program) (Q : Exit → Act → World → Prop) (base : List (Tmp × Value)) (dsts : List (Option Tmp)) (S : World → Prop) (fs : List FactP) (i : Nat) (o : Oper) : Prop :=
  ∀ (a : Act) (w : World), S w → (∀ t v, base.lookup t = some v → a.tmps.getD t undef = v) →
    (∀ j d, dsts[j]? = some (some d) → depT o j = true → factP fs j (a.tmps.getD d undef) w) →
    ∀ K : Act → World → Prop, (∀ v w', S w' → (∀ j u, factP fs j u w → factP fs j u w') → factP fs i v w' → K (a.put o.dst v) w') →
      (o.guard = none ∨ ∃ j d, o.guard = some (j, true) ∧ dsts[j]? = some (some d) ∧ a.tmps.getD d undef = .bool true) ∧ o.wp P a w K Q

theorem wp_region_tail {ops : Array Oper} {id : Nat} {a : Act} {w : World} {S : World → Prop} (fs : List FactP) (base : List (Tmp × Value)) (dsts : List (Option Tmp)) (last : Oper) (k : Nat)
    (hm : P.follows .mixedOrders = true) (hk : ops.size = k + 1) (hlk : ops[k]? = some last) (ho : orderly .any a.tmps.size 0 [] ops.toList = true) (ht : tails .any ops.toList = true) (hd : ops.toList.map (·.dst) = dsts)
    (hbo : base.all (fun p => outside ops p.1) = true) (hb : ∀ t v, base.lookup t = some v → a.tmps.getD t undef = v)
    (hS : S w.drew) (hob : AllOps (Obt P Q base dsts S fs) 0 ops.toList.dropLast) (hgl : last.guard = none)
    (hlast : ∀ (a' : Act) (w' : World), a'.tmps.size = a.tmps.size → a'.defers = a.defers → (∀ t, outside ops t = true → a'.tmps.getD t undef = a.tmps.getD t undef) → S w' →
      (∀ j d, dsts[j]? = some (some d) → j < k → factP fs j (a'.tmps.getD d undef) w') → ∀ K : Act → World → Prop, (∀ v w2, Q .normal (a'.put last.dst v) w2 → K (a'.put last.dst v) w2) → last.wp P a' w' K Q) :
    (Code.region id ops true).wp P Q a w := by
  have hl : ops[ops.size - 1]? = some last := by rw [hk]; exact hlk
  have hdst' : ∀ (j : Nat) (d : Tmp), dsts[j]? = some (some d) → ∃ o, ops[j]? = some o ∧ o.dst = some d := fun j d h => by
    rw [← hd, List.getElem?_map] at h
    cases hj : ops.toList[j]? with
    | none => rw [hj] at h; simp at h
    | some o =>
      rw [hj] at h
      exact ⟨o, by simpa using hj, by simpa using h⟩
  have hmem : ∀ (t : Tmp) (v : Value) (l : List (Tmp × Value)), l.lookup t = some v → ∃ p ∈ l, p.1 = t := fun t v l => by
    induction l with
    | nil => intro h; simp at h
    | cons x r ih =>
      intro h
      rw [List.lookup_cons] at h
      by_cases e : t == x.1
      · exact ⟨x, List.mem_cons_self, (by simpa using e : t = x.1).symm⟩
      · have e' : (t == x.1) = false := by simpa using e
        rw [e'] at h
        obtain ⟨p, hp, hpt⟩ := ih h
        exact ⟨p, List.mem_cons_of_mem _ hp, hpt⟩
  have hstart : ∀ k, k ≤ ops.size → unl (Array.replicate ops.size false) k = k := by
    intro k
    induction k with
    | zero => intro _; rfl
    | succ k ih =>
      intro hk
      rw [unl, ih (by omega)]
      have : (Array.replicate ops.size false).getD k true = false := by simp [show k < ops.size by omega]
      rw [this]; rfl
  refine wp_region_any hm (wpAny_tail (F := fun i u w => factP fs i u w) ho ht hl (fun i o hi hil a' w' hts hds hout hSw hdep K hK => ?_) (fun a' w' h1 h2 h3 h4 h5 K hK => ?_) _ _ _ _ ⟨by simp, rfl, rfl, fun _ _ => rfl, hS, fun i o d hi _ hl => ?_⟩ (fun k o hk hlk => ?_) ?_ ?_)
  · have hbase : ∀ t v, base.lookup t = some v → a'.tmps.getD t undef = v := fun t v h => by
      obtain ⟨p, hp, rfl⟩ := hmem t v base h
      rw [List.all_eq_true] at hbo
      rw [hout p.1 (hbo p hp)]; exact hb p.1 v h
    have hdep' : ∀ j d, dsts[j]? = some (some d) → depT o j = true → factP fs j (a'.tmps.getD d undef) w' := fun j d h he => by
      unfold depT at he
      rw [Array.any_eq_true] at he
      obtain ⟨n, hn, he⟩ := he
      simp only [Bool.and_eq_true, beq_iff_eq] at he
      obtain ⟨oe, hoe, hde⟩ := hdst' j d h
      have := hdep (o.after[n]) (Array.getElem_mem hn) he.2 oe d (by rw [he.1]; exact hoe) hde
      rw [he.1] at this; exact this
    have hip : ops.toList.dropLast[i]? = some o := by
      have : ops.toList[i]? = some o := by simpa using hi
      rw [List.getElem?_dropLast, if_pos (by simpa using hil)]; exact this
    have hobi := allOps_at _ 0 hob i o hip
    rw [Nat.zero_add] at hobi
    obtain ⟨hg, hwp⟩ := hobi a' w' hSw hbase hdep' K hK
    have hwant : Region.wanted o (yielded ops a'.tmps) = true := by
      rcases hg with hg | ⟨j, d, hg, hj, hv⟩
      · simp [Region.wanted, hg]
      · obtain ⟨oj, hoj, hdj⟩ := hdst' j d hj
        have h1 : a'.tmps[d]? = some (.bool true) := by
          cases h : a'.tmps[d]? with
          | none => simp [h] at hv; cases hv
          | some u => simp [h] at hv; rw [hv]
        simp [Region.wanted, hg, yielded, hoj, hdj, h1]
    unfold wpOp
    simp only [hi, hwant, if_true]
    exact .inl hwp
  · have hw := hlast a' w' h1 h2 h3 h4 (fun j d h hj => by
      obtain ⟨o, ho', hd'⟩ := hdst' j d h
      exact h5 j o d ho' (by omega) hd') K fun v w2 hq => hK _ _ hq
    unfold wpOp
    have hwant : Region.wanted last (yielded ops a'.tmps) = true := by simp [Region.wanted, hgl]
    simp only [hl, hwant, if_true]
    exact .inl hw
  · exfalso
    have hlt : i < ops.size := (Array.getElem?_eq_some_iff.1 hi).1
    simp [hlt] at hl
  · exfalso
    have hlt : k < ops.size := (Array.getElem?_eq_some_iff.1 hk).1
    simp [hlt] at hlk
  · have hlt : ops.size - 1 < ops.size := by omega
    simp [hlt]
  · rw [hstart _ (Nat.le_refl _)]; exact Nat.le_refl _
end
end Go.Proofs.YtjnnoabaepmcnaaGreat
/-
  The operations of such a region, kind by kind.
-/
namespace Go.Proofs.YtjnnoabaepmcnaaGreat
open Go.RowKit

/-- What an operand reads as: a slot from before, a slot of a forerunner, a constant. -/
def SrcT (base : List (Tmp × Value)) (dsts : List (Option Tmp)) (fs : List FactP) (o : Oper) (x : Operand) (v : Value) : Prop :=
  (∃ t, x = .tmp t ∧ base.lookup t = some v) ∨ (∃ j d, x = .tmp d ∧ dsts[j]? = some (some d) ∧ depT o j = true ∧ factP fs j = isV v) ∨ x = .const v
theorem srt_b {base : List (Tmp × Value)} {dsts : List (Option Tmp)} {fs : List FactP} {o : Oper} {v : Value} (t : Tmp) (h : base.lookup t = some v) : SrcT base dsts fs o (.tmp t) v := .inl ⟨t, rfl, h⟩
theorem srt_j {base : List (Tmp × Value)} {dsts : List (Option Tmp)} {fs : List FactP} {o : Oper} {v : Value} {d : Tmp} (j : Nat) (h1 : dsts[j]? = some (some d)) (h2 : depT o j = true) (h3 : factP fs j = isV v) : SrcT base dsts fs o (.tmp d) v := .inr (.inl ⟨j, d, rfl, h1, h2, h3⟩)
theorem srt_c {base : List (Tmp × Value)} {dsts : List (Option Tmp)} {fs : List FactP} {o : Oper} {v : Value} : SrcT base dsts fs o (.const v) v := .inr (.inr rfl)
def SrcsT (base : List (Tmp × Value)) (dsts : List (Option Tmp)) (fs : List FactP) (o : Oper) : List Operand → List Value → Prop
  | [], [] => True
  | x :: l, v :: r => SrcT base dsts fs o x v ∧ SrcsT base dsts fs o l r
  | _, _ => False
/-- A slot whose fact is no bare value. -/
def SlotT (dsts : List (Option Tmp)) (o : Oper) (j : Nat) (d : Tmp) : Prop := dsts[j]? = some (some d) ∧ depT o j = true

/-- A fact that stands while nothing that was there turns. -/
def StableP (f : FactP) : Prop := ∀ u w w', Below w.heap.size w w' → f u w → f u w'
theorem stable_v (v : Value) : StableP (isV v) := fun _ _ _ _ h => h
theorem stable_all {fs : List FactP} (h : ∀ f ∈ fs, StableP f) (j : Nat) : StableP (factP fs j) := by
  unfold factP
  rw [List.getD_eq_getElem?_getD]
  cases hj : fs[j]? with
  | none => exact stable_v _
  | some f => exact h f (List.mem_of_getElem? hj)

theorem run_value {P : Program} {Q : Exit → Act → World → Prop} {o : Oper} {a : Act} {w w' : World} {K : Act → World → Prop} (v : Value) (hr : (execOp a.eval o).run P w = .ok (.value v) w') (h : K (a.put o.dst v) w') : o.wp P a w K Q := by
  unfold Oper.wp; rw [hr]; exact h
theorem run_skip {P : Program} {Q : Exit → Act → World → Prop} {o : Oper} {a : Act} {w w' : World} {K : Act → World → Prop} (hr : (execOp a.eval o).run P w = .ok .skip w') (h : K (a.put o.dst undef) w') : o.wp P a w K Q := by
  unfold Oper.wp; rw [hr]; exact h
theorem run_call {P : Program} {Q : Exit → Act → World → Prop} {o : Oper} {a : Act} {w : World} {K : Act → World → Prop} {f : FuncId} {xs : Array Operand} {ts : Array TypeId} (ho : o.op = .call { callee := .value (.func f), args := xs, argTypes := ts })
    {fn : Func} (hfn : P.funcs[f]? = some fn) (hn : (fn.name == "runtime.NumGoroutine") = false) (hb : fn.body.isSome = true) (args : Array Value) (hx : xs.map a.eval = args) (h : Calls P f args w fun e w' => ∃ v, e = .returned v ∧ K (a.put o.dst v) w') : o.wp P a w K Q := by
  subst hx
  unfold Oper.wp
  have hf : a.eval (.func f) = .func (.func f) #[] #[] := rfl
  simp only [execOp, ho, resolve, hf, Deferred.ofValue]
  have hn' : ¬ fn.name = "runtime.NumGoroutine" := by simpa using hn
  have hb' : ¬ fn.body = none := by intro e; rw [e] at hb; cases hb
  simp [invoke, callFunc, Oper.upon, hfn, hn', hb', Result.andThen]
  refine Calls.mono h ?_
  rintro e w' ⟨v, rfl, hk⟩
  exact hk

section
variable {P : Program} {Q : Exit → Act → World → Prop} {base : List (Tmp × Value)} {dsts : List (Option Tmp)} {S : World → Prop} {fs : List FactP} {i : Nat} {o : Oper}
theorem srt_val {a : Act} {w : World} {x : Operand} {v : Value} (h : SrcT base dsts fs o x v) (hb : ∀ t v, base.lookup t = some v → a.tmps.getD t undef = v)
    (hd : ∀ j d, dsts[j]? = some (some d) → depT o j = true → factP fs j (a.tmps.getD d undef) w) : a.eval x = v := by
  rcases h with ⟨t, rfl, h⟩ | ⟨j, d, rfl, h1, h2, h3⟩ | rfl
  · exact hb t v h
  · have := hd j d h1 h2
    rw [h3] at this; exact this
  · rfl
theorem srts_val {a : Act} {w : World} (hB : ∀ t v, base.lookup t = some v → a.tmps.getD t undef = v) (hD : ∀ j d, dsts[j]? = some (some d) → depT o j = true → factP fs j (a.tmps.getD d undef) w) : ∀ (l : List Operand) (r : List Value), SrcsT base dsts fs o l r → l.map a.eval = r := fun l => by
  induction l with
  | nil => intro r h; cases r with
    | nil => rfl
    | cons v r => exact h.elim
  | cons x l ih => intro r h; cases r with
    | nil => exact h.elim
    | cons v r => rw [List.map_cons, srt_val h.1 hB hD, ih r h.2]

/-- An operation that yields v of what its operands read as, in whatever world meets S. -/
theorem obt_run (v : Value) (hf : factP fs i = isV v) (hg : o.guard = none) (hr : ∀ (ρ : Operand → Value) (w : World), S w → (∀ x u, SrcT base dsts fs o x u → ρ x = u) → (execOp ρ o).run P w = .ok (.value v) w) : Obt P Q base dsts S fs i o :=
  fun a w hS hB hD K hK => ⟨.inl hg, run_value v (hr a.eval w hS fun x u hx => srt_val hx hB hD) (hK _ _ hS (fun _ _ h => h) (by rw [hf]; rfl))⟩
theorem obt_move {x : Operand} (v : Value) (ho : o.op = .move x) (hf : factP fs i = isV v) (hg : o.guard = none) (hx : SrcT base dsts fs o x v) : Obt P Q base dsts S fs i o :=
  obt_run v hf hg fun a w _ hs => by unfold execOp; rw [ho]; simp only [hs x v hx]; rfl
theorem obt_none (v : Value) (hf : factP fs i = isV v) (hg : o.guard = none) (hr : ∀ (ρ : Operand → Value) (w : World), S w → (execOp ρ o).run P w = .ok (.value v) w) : Obt P Q base dsts S fs i o :=
  obt_run v hf hg fun ρ w hS _ => hr ρ w hS
theorem obt_one {x : Operand} {u : Value} (v : Value) (hf : factP fs i = isV v) (hg : o.guard = none) (hx : SrcT base dsts fs o x u) (hr : ∀ (ρ : Operand → Value) (w : World), S w → ρ x = u → (execOp ρ o).run P w = .ok (.value v) w) : Obt P Q base dsts S fs i o :=
  obt_run v hf hg fun ρ w hS hs => hr ρ w hS (hs x u hx)
theorem obt_two {x y : Operand} {u t : Value} (v : Value) (hf : factP fs i = isV v) (hg : o.guard = none) (hx : SrcT base dsts fs o x u) (hy' : SrcT base dsts fs o y t) (hr : ∀ (ρ : Operand → Value) (w : World), S w → ρ x = u → ρ y = t → (execOp ρ o).run P w = .ok (.value v) w) : Obt P Q base dsts S fs i o :=
  obt_run v hf hg fun ρ w hS hs => hr ρ w hS (hs x u hx) (hs y t hy')
/-- An operation that makes memory. -/
theorem obt_make (hst : ∀ f ∈ fs, StableP f) (hg : o.guard = none) (hr : ∀ (a : Act) (w : World), S w → (∀ x u, SrcT base dsts fs o x u → a.eval x = u) → ∃ v w', (execOp a.eval o).run P w = .ok (.value v) w' ∧ S w' ∧ Below w.heap.size w w' ∧ factP fs i v w') : Obt P Q base dsts S fs i o :=
  fun a w hS hB hD K hK => by
    obtain ⟨v, w', h1, h2, h3, h4⟩ := hr a w hS fun x u hx => srt_val hx hB hD
    exact ⟨.inl hg, run_value v h1 (hK _ _ h2 (fun j u h => stable_all hst j u _ _ h3 h) h4)⟩
/-- A call, its arguments all values. -/
theorem obt_call {f : FuncId} {xs : Array Operand} {ts : Array TypeId} {fn : Func} (hst : ∀ f ∈ fs, StableP f) (args : List Value) (ho : o.op = .call { callee := .value (.func f), args := xs, argTypes := ts }) (hfn : P.funcs[f]? = some fn) (hn : (fn.name == "runtime.NumGoroutine") = false) (hb : fn.body.isSome = true)
    (hg : o.guard = none) (hx : SrcsT base dsts fs o xs.toList args)
    (hc : ∀ w, S w → Calls P f args.toArray w fun e w' => ∃ v, e = .returned v ∧ S w' ∧ Below w.heap.size w w' ∧ factP fs i v w') : Obt P Q base dsts S fs i o :=
  fun a w hS hB hD K hK => ⟨.inl hg, run_call ho hfn hn hb args.toArray (by
    rw [← srts_val hB hD _ _ hx]; exact Array.toList_inj.1 (by simp)) ((hc w hS).mono fun e w' ⟨v, he, h1, h2, h3⟩ => ⟨v, he, hK _ _ h1 (fun j u h => stable_all hst j u _ _ h2 h) h3⟩)⟩
/-- A call of two arguments, the first of which a forerunner has made; .. the second of which. -/
theorem obt_call_l {f : FuncId} {d : Tmp} {y : Operand} {ts : Array TypeId} {fn : Func} {u : Value} (hst : ∀ f ∈ fs, StableP f) (j : Nat) (ho : o.op = .call { callee := .value (.func f), args := #[.tmp d, y], argTypes := ts }) (hfn : P.funcs[f]? = some fn) (hn : (fn.name == "runtime.NumGoroutine") = false) (hb : fn.body.isSome = true)
    (hg : o.guard = none) (h1 : dsts[j]? = some (some d)) (h2 : depT o j = true) (hx : SrcT base dsts fs o y u)
    (hc : ∀ v w, S w → factP fs j v w → Calls P f #[v, u] w fun e w' => ∃ r, e = .returned r ∧ S w' ∧ Below w.heap.size w w' ∧ factP fs i r w') : Obt P Q base dsts S fs i o :=
  fun a w hS hB hD K hK => ⟨.inl hg, run_call ho hfn hn hb #[a.tmps.getD d undef, u] (by
    have := srt_val hx hB hD
    simp only [List.map_toArray, List.map_cons, List.map_nil, this]; rfl) ((hc _ w hS (hD j d h1 h2)).mono fun e w' ⟨v, he, g1, g2, g3⟩ => ⟨v, he, hK _ _ g1 (fun j u h => stable_all hst j u _ _ g2 h) g3⟩)⟩
theorem obt_call_r {f : FuncId} {d : Tmp} {y : Operand} {ts : Array TypeId} {fn : Func} {u : Value} (hst : ∀ f ∈ fs, StableP f) (j : Nat) (ho : o.op = .call { callee := .value (.func f), args := #[y, .tmp d], argTypes := ts }) (hfn : P.funcs[f]? = some fn) (hn : (fn.name == "runtime.NumGoroutine") = false) (hb : fn.body.isSome = true)
    (hg : o.guard = none) (h1 : dsts[j]? = some (some d)) (h2 : depT o j = true) (hx : SrcT base dsts fs o y u)
    (hc : ∀ v w, S w → factP fs j v w → Calls P f #[u, v] w fun e w' => ∃ r, e = .returned r ∧ S w' ∧ Below w.heap.size w w' ∧ factP fs i r w') : Obt P Q base dsts S fs i o :=
  fun a w hS hB hD K hK => ⟨.inl hg, run_call ho hfn hn hb #[u, a.tmps.getD d undef] (by
    have := srt_val hx hB hD
    simp only [List.map_toArray, List.map_cons, List.map_nil, this]; rfl) ((hc _ w hS (hD j d h1 h2)).mono fun e w' ⟨v, he, g1, g2, g3⟩ => ⟨v, he, hK _ _ g1 (fun j u h => stable_all hst j u _ _ g2 h) g3⟩)⟩

/-- The last operation: an assignment of what a forerunner has left. -/
theorem tail_assign {last : Oper} {a' : Act} {w' : World} {x : Operand} {v : Value} (ho : last.op = .assign x) (hx : a'.eval x = v) (hq : Q .normal (a'.put last.dst v) w') (K : Act → World → Prop) (hK : ∀ v w2, Q .normal (a'.put last.dst v) w2 → K (a'.put last.dst v) w2) : last.wp P a' w' K Q :=
  run_value v (by unfold execOp; rw [ho]; simp only [hx]; rfl) (hK v w' hq)
/-- A frame that is written out. -/
def frameAt (a : Act) : Nat → List Value → Prop
  | _, [] => True
  | k, x :: r => a.tmps.getD k undef = x ∧ frameAt a (k + 1) r
theorem frameAt_get (a : Act) : ∀ (l : List Value) (k i : Nat) (x : Value), frameAt a k l → l[i]? = some x → a.tmps.getD (k + i) undef = x
  | [], k, i, x, _, h => by simp at h
  | y :: r, k, i, x, hf, h => by
    cases i with
    | zero => simp only [List.getElem?_cons_zero, Option.some.injEq] at h; subst h; exact hf.1
    | succ i =>
      simp only [List.getElem?_cons_succ] at h
      have := frameAt_get a r (k + 1) i x hf.2 h
      rwa [show k + 1 + i = k + (i + 1) by omega] at this
theorem frame_eq {a : Act} (l : List Value) {ds : List Deferred} (hs : a.tmps.size = l.length) (hd : a.defers = ds) (h : frameAt a 0 l) : a = ⟨l.toArray, ds⟩ := by
  obtain ⟨ts, df⟩ := a
  simp only at hs hd
  subst hd
  congr 1
  apply Array.ext
  · simpa using hs
  · intro i h1 h2
    have hl : l[i]? = some l[i] := List.getElem?_eq_getElem (by simpa using h2)
    have := frameAt_get _ l 0 i _ h hl
    rw [Nat.zero_add] at this
    simp only [Array.getD_eq_getD_getElem?, Array.getElem?_eq_getElem h1, Option.getD_some] at this
    rw [this]; simp
end
end Go.Proofs.YtjnnoabaepmcnaaGreat
/-
  Line numbers: lineNumber, l03Least, LineOf of both.
-/
namespace Go.Proofs.YtjnnoabaepmcnaaGreat
open Go.RowKit

def least (dy cols : Int) : Int := min 0 (-dy * (cols - 1))
/-- The number of a cell's line. -/
def lnum (dx dy cols y x : Int) : Int := dx * y - dy * x - least dy cols
structure Near (dx dy : Int) : Prop where
  x1 : 0 ≤ dx
  x2 : dx ≤ 3
  y1 : -3 ≤ dy
  y2 : dy ≤ 3
theorem near_of {dx dy : Int} (h : dirOk dx dy = true) : Near dx dy := by
  simp only [dirOk, Bool.and_eq_true, decide_eq_true_eq] at h
  obtain ⟨⟨⟨⟨h1, h2⟩, h3, h4⟩, -⟩, -⟩ := h
  exact ⟨h1, h2, h3, h4⟩
theorem mul_dx {a b : Int} (h1 : 0 ≤ a) (h2 : a ≤ 3) (h3 : 0 ≤ b) (h4 : b ≤ 5) : 0 ≤ a * b ∧ a * b ≤ 15 := by
  have : a = 0 ∨ a = 1 ∨ a = 2 ∨ a = 3 := by omega
  rcases this with rfl | rfl | rfl | rfl <;> omega
theorem mul_dy {a b : Int} (h1 : -3 ≤ a) (h2 : a ≤ 3) (h3 : 0 ≤ b) (h4 : b ≤ 5) : -15 ≤ a * b ∧ a * b ≤ 15 := by
  have : a = -3 ∨ a = -2 ∨ a = -1 ∨ a = 0 ∨ a = 1 ∨ a = 2 ∨ a = 3 := by omega
  rcases this with rfl | rfl | rfl | rfl | rfl | rfl | rfl <;> omega

set_option maxHeartbeats 400000 in
theorem lineNumber_any (dx dy cols y x : Int) (w : World) (hn : Near dx dy) (hc : 1 ≤ cols ∧ cols ≤ 5) (hy : 0 ≤ y ∧ y < 5) (hx : 0 ≤ x ∧ x < 5) :
    Calls Tryz.prog 93 #[.int .i64 cols, .agg #[.int .i64 dx, .int .i64 dy], .int .i64 y, .int .i64 x] w fun e w' => e = .returned (.int .i64 (lnum dx dy cols y x)) ∧ Below w.heap.size w w' := by
  obtain ⟨h1, h2, h3, h4⟩ := hn
  obtain ⟨h5, h6⟩ := hc
  obtain ⟨y1, y2⟩ := hy
  obtain ⟨x1, x2⟩ := hx
  obtain ⟨hm1, hm2⟩ := mul_dy (a := -dy) (b := cols - 1) (by omega) (by omega) (by omega) (by omega)
  obtain ⟨hp1, hp2⟩ := mul_dx h1 h2 y1 (by omega)
  obtain ⟨hq1, hq2⟩ := mul_dy h3 h4 x1 (by omega)
  have HL : Hid (lnum dx dy cols y x = dx * y - dy * x - min 0 (-dy * (cols - 1))) := hide rfl
  by_cases h : 0 ≤ -dy * (cols - 1)
  · have HR : Hid (lnum dx dy cols y x = dx * y - dy * x - 0) := hide (by rw [HL.out]; omega)
    go_enter Tryz.func93, Tryz.ntmps93
    go_wp2
    trace_state
    go_ret
    exact ⟨ret_int (by rw [HR.out]; omega), (Below.refl _ _).alloc (Nat.le_refl _) _⟩
  · have HR : Hid (lnum dx dy cols y x = dx * y - dy * x - (-dy * (cols - 1))) := hide (by rw [HL.out]; omega)
    go_enter Tryz.func93, Tryz.ntmps93
    go_wp2
    go_ret
    exact ⟨ret_int (by rw [HR.out]), (Below.refl _ _).alloc (Nat.le_refl _) _⟩
end Go.Proofs.YtjnnoabaepmcnaaGreat
/-
  LineOf, of the model and of the program.
-/
namespace Go.Proofs.YtjnnoabaepmcnaaGreat
open Go.RowKit

def sizeOk (r c : Int) : Bool := decide (1 ≤ r ∧ r ≤ 5) && decide (1 ≤ c ∧ c ≤ 5)
theorem sizeOk_yes {r c : Int} (h : sizeOk r c = true) : (1 ≤ r ∧ r ≤ 5) ∧ (1 ≤ c ∧ c ≤ 5) := by simpa [sizeOk] using h
theorem l03Size_any (r c : Int) (w : World) :
    Calls Tryz.prog 52 #[.int .i64 r, .int .i64 c] w fun e w' => e = .returned (.bool (sizeOk r c)) ∧ w = w' := by
  have HS : Hid (sizeOk r c = (decide (1 ≤ r ∧ r ≤ 5) && decide (1 ≤ c ∧ c ≤ 5))) := hide rfl
  by_cases h1 : 1 ≤ r ∧ r ≤ 5
  · have H1 := hide (decide_eq_true h1)
    clear h1
    go_enter Tryz.func52, Tryz.ntmps52
    go_wp2_with (first | (with_reducible refine (l01In_any r 1 5 _).mono ?_; rw [H1.out]; rintro e w' ⟨rfl, rfl⟩) | (with_reducible refine (l01In_any c 1 5 _).mono ?_; rintro e w' ⟨rfl, rfl⟩))
    go_ret
    exact ⟨ret_bool (by rw [HS.out, H1.out]; simp), rfl⟩
  · have H1 := hide (decide_eq_false h1)
    clear h1
    go_enter Tryz.func52, Tryz.ntmps52
    go_wp2_with (first | (with_reducible refine (l01In_any r 1 5 _).mono ?_; rw [H1.out]; rintro e w' ⟨rfl, rfl⟩))
    go_ret
    exact ⟨ret_bool (by rw [HS.out, H1.out]; rfl), rfl⟩

theorem sizesOk_any (r c dx dy : Int) (w : World) :
    Calls Tryz.prog 94 #[.int .i64 r, .int .i64 c, .agg #[.int .i64 dx, .int .i64 dy]] w fun e w' => e = .returned (.bool (sizeOk r c && dirOk dx dy)) ∧ Below w.heap.size w w' := by
  have HS : Hid (sizeOk r c = (decide (1 ≤ r ∧ r ≤ 5) && decide (1 ≤ c ∧ c ≤ 5))) := hide rfl
  by_cases h1 : 1 ≤ r ∧ r ≤ 5
  · have H1 := hide (decide_eq_true h1)
    clear h1
    by_cases h2 : 1 ≤ c ∧ c ≤ 5
    · have H2 := hide (decide_eq_true h2)
      clear h2
      go_enter Tryz.func94, Tryz.ntmps94
      go_wp2_with (first | (with_reducible refine (sideOk_any r _).mono ?_; rw [H1.out]; rintro e w' ⟨rfl, rfl⟩) | (with_reducible refine (sideOk_any c _).mono ?_; rw [H2.out]; rintro e w' ⟨rfl, rfl⟩) | (with_reducible refine (implDirectionOk_any dx dy _).mono ?_; rintro e w1 ⟨rfl, hb⟩; have HB := hide hb; clear hb))
      go_ret
      exact ⟨ret_bool (by rw [HS.out, H1.out, H2.out]; rfl), ((Below.refl _ _).alloc (Nat.le_refl _) _).trans (HB.out.mono (by simp))⟩
    · have H2 := hide (decide_eq_false h2)
      clear h2
      go_enter Tryz.func94, Tryz.ntmps94
      go_wp2_with (first | (with_reducible refine (sideOk_any r _).mono ?_; rw [H1.out]; rintro e w' ⟨rfl, rfl⟩) | (with_reducible refine (sideOk_any c _).mono ?_; rw [H2.out]; rintro e w' ⟨rfl, rfl⟩))
      go_ret
      exact ⟨ret_bool (by rw [HS.out, H1.out, H2.out]; rfl), (Below.refl _ _).alloc (Nat.le_refl _) _⟩
  · have H1 := hide (decide_eq_false h1)
    clear h1
    go_enter Tryz.func94, Tryz.ntmps94
    go_wp2_with (first | (with_reducible refine (sideOk_any r _).mono ?_; rw [H1.out]; rintro e w' ⟨rfl, rfl⟩))
    go_ret
    exact ⟨ret_bool (by rw [HS.out, H1.out]; rfl), (Below.refl _ _).alloc (Nat.le_refl _) _⟩

/-- A direction in a variable. -/
def DirAt (w : World) (g : Nat) (dx dy : Int) : Prop := w.heap[g]? = some (.cells #[.int .i64 dx, .int .i64 dy] 70 (0, 0))
theorem dirAt_below {w w' : World} {g : Nat} {dx dy : Int} (h : DirAt w g dx dy) (hb : Below w.heap.size w w') : DirAt w' g dx dy := by
  unfold DirAt; rw [hb.block g (Array.getElem?_eq_some_iff.1 h).1]; exact h
theorem Tryz.sizeDir : (Tryz.prog.info? 70).map (·.size) = some 2 := by kernel_rfl
theorem exec_loadDir {ρ : Operand → Value} {o : Oper} {w : World} {x : Operand} {g : Nat} {dx dy : Int} (ho : o.op = .load 70 x) (hx : ρ x = .pointer (some ⟨g, 0, none⟩)) (hd : DirAt w g dx dy) :
    (execOp ρ o).run Tryz.prog w = .ok (.value (.agg #[.int .i64 dx, .int .i64 dy])) w := by
  unfold execOp
  simp only [ho, hx, Instr.loadAt, Instr.sureAddr, Sem.run_bind, Sem.run_pure, Result.andThen_ok, run_loadVar_row w g _ _ _ _ _ hd Tryz.underlying70 rfl Tryz.sizeDir]
theorem exec_field0 {ρ : Operand → Value} {o : Oper} {w : World} {x : Operand} {g : Nat} (ho : o.op = .fieldAddr 70 x 0) (hx : ρ x = .pointer (some ⟨g, 0, none⟩)) : (execOp ρ o).run Tryz.prog w = .ok (.value (.pointer (some ⟨g, 0, none⟩))) w := by
  unfold execOp
  simp only [ho, hx]
  go_simp
theorem exec_field1 {ρ : Operand → Value} {o : Oper} {w : World} {x : Operand} {g : Nat} (ho : o.op = .fieldAddr 70 x 1) (hx : ρ x = .pointer (some ⟨g, 0, none⟩)) : (execOp ρ o).run Tryz.prog w = .ok (.value (.pointer (some ⟨g, 1, none⟩))) w := by
  unfold execOp
  simp only [ho, hx]
  go_simp
theorem exec_loadX {ρ : Operand → Value} {o : Oper} {w : World} {x : Operand} {g : Nat} {dx dy : Int} (ho : o.op = .load 3 x) (hx : ρ x = .pointer (some ⟨g, 0, none⟩)) (hd : DirAt w g dx dy) : (execOp ρ o).run Tryz.prog w = .ok (.value (.int .i64 dx)) w := by
  have hc : w.cell? ⟨g, 0, none⟩ = some (.int .i64 dx) := by rw [cell_of_row w g 0 _ _ _ hd]; rfl
  unfold execOp
  simp only [ho, hx]
  go_simp
theorem exec_loadY {ρ : Operand → Value} {o : Oper} {w : World} {x : Operand} {g : Nat} {dx dy : Int} (ho : o.op = .load 3 x) (hx : ρ x = .pointer (some ⟨g, 1, none⟩)) (hd : DirAt w g dx dy) : (execOp ρ o).run Tryz.prog w = .ok (.value (.int .i64 dy)) w := by
  have hc : w.cell? ⟨g, 1, none⟩ = some (.int .i64 dy) := by rw [cell_of_row w g 1 _ _ _ hd]; rfl
  unfold execOp
  simp only [ho, hx]
  go_simp

theorem set_get {ts : Array Value} {d n : Tmp} {v : Value} (hs : ts.size = n) (hd : d < n) : (ts.setIfInBounds d v).getD d undef = v := by
  have : d < ts.size := Nat.lt_of_lt_of_eq hd hs.symm
  simp [this]

/-- What LineOf returns. -/
def lineOf (rows cols dx dy y x : Int) : Int := if (sizeOk rows cols = true ∧ dirOk dx dy = true) ∧ (0 ≤ y ∧ y < rows) ∧ 0 ≤ x ∧ x < cols then lnum dx dy cols y x else -1
/-- A direction's variable is read whole. -/
theorem wpList_loadDir {ops : Array Oper} {rest : List Oper} {o : Oper} {a : Act} {Q : Exit → Act → World → Prop} {W : World} {g : Nat} {dx dy : Int} (hb : DirAt W g dx dy)
    (hgd : o.guard = none) (x : Operand) (ho : o.op = .load 70 x) (hx : a.eval x = .pointer (some ⟨g, 0, none⟩))
    (h : wpList Tryz.prog ops Q rest (a.put o.dst (.agg #[.int .i64 dx, .int .i64 dy])) W) : wpList Tryz.prog ops Q (o :: rest) a W :=
  wpList_load_row hgd _ x ho g hx _ _ (0, 0) _ hb Tryz.underlying70 rfl Tryz.sizeDir h
end Go.Proofs.YtjnnoabaepmcnaaGreat
/-
  SumsOk, of the model and of the program.
-/
namespace Go.Proofs.YtjnnoabaepmcnaaGreat
open Go.RowKit

def badB (most x : Int) : Bool := decide (x < 0) || decide (most < x)
theorem any_no {p : Int → Bool} {r : List Int} (h : ∀ i, (hi : i < r.length) → p r[i] = false) : r.any p = false := by
  rw [Bool.eq_false_iff]; intro e
  rw [List.any_eq_true] at e
  obtain ⟨x, hx, hp⟩ := e
  obtain ⟨i, hi, rfl⟩ := List.getElem_of_mem hx
  rw [h i hi] at hp; cases hp
theorem any_yes {p : Int → Bool} {r : List Int} (i : Nat) (hi : i < r.length) (h : p r[i] = true) : r.any p = true := List.any_eq_true.2 ⟨_, List.getElem_mem hi, h⟩

set_option maxHeartbeats 400000 in
theorem bad_any (x most : Int) (g : Nat) (w : World) (hc : w.cell? ⟨g, 0, none⟩ = some (.int .i64 most)) :
    Calls Tryz.prog 97 #[.int .i64 x, .pointer (some ⟨g, 0, none⟩)] w fun e w' => e = .returned (.bool (badB most x)) ∧ w = w' := by
  have HB : Hid (badB most x = (decide (x < 0) || decide (most < x))) := hide rfl
  by_cases h1 : x < 0
  · go_enter Tryz.func97, Tryz.ntmps97
    go_wp2
    go_ret
    exact ⟨ret_bool (by rw [HB.out]; simp [h1]), rfl⟩
  · go_enter Tryz.func97, Tryz.ntmps97
    go_wp2
    go_ret
    exact ⟨ret_bool (by rw [HB.out]; simp; omega), rfl⟩

def IdxRes (b : Bool) (w : World) (e : Ending) (w' : World) : Prop := ∃ i : Int, e = .returned (.int .i64 i) ∧ -1 ≤ i ∧ b = decide (0 ≤ i) ∧ w = w'
set_option maxHeartbeats 1000000 in
theorem indexFunc_any (v : Value) (r : List Int) (most : Int) (q : Nat) (w : World) (hin : InRow w v r) (hq : w.cell? ⟨q, 0, none⟩ = some (.int .i64 most)) :
    Calls Tryz.prog 60 #[v, .func (.func 97) #[] #[.pointer (some ⟨q, 0, none⟩)]] w (IdxRes (r.any (badB most)) w) := by
  obtain ⟨a, c, rfl, hm, hp⟩ := hin
  unfold maxLen at hm
  by_cases h0 : r.length = 0
  · have hr : r = [] := List.eq_nil_of_length_eq_zero h0
    subst hr
    clear hp h0 hm
    go_enter Tryz.func60, Tryz.ntmps60
    go_wp2
    go_loop [8] (fun i => i = .int .i64 0) (fun _ => 0)
    case atStart => rfl
    case round =>
      obtain rfl := hrel
      go_wp2
      go_ret
      exact ⟨-1, rfl, by omega, rfl, rfl⟩
  · obtain ⟨g, o, rfl, hg, hc⟩ := hp.resolve_left h0
    have HC := hide hc
    obtain ⟨n, hn⟩ : ∃ n, n = r.length := ⟨_, rfl⟩
    have HN := hide hn
    rw [← hn] at hm ⊢
    clear hp hc h0 hn
    go_enter Tryz.func60, Tryz.ntmps60
    go_wp2
    go_loop [8] (fun i => ∃ k : Nat, k ≤ n ∧ i = .int .i64 k ∧ ∀ t, (h : t < r.length) → t < k → badB most r[t] = false) (fun i => n - (intOf i).toNat)
    case atStart => exact ⟨0, Nat.zero_le _, rfl, fun t _ h => absurd h (Nat.not_lt_zero _)⟩
    case round =>
      obtain ⟨k, hk, rfl, hall⟩ := hrel
      have HA := hide hall
      clear hall
      by_cases hlt : k < n
      · have hk' : k < r.length := by rw [← HN.out]; exact hlt
        have hx := HC.out k hk'
        have HNO := hide (fun h => any_yes (p := badB most) k hk' h)
        have HST : Hid (badB most r[k] = false → ∀ t, (h : t < r.length) → t < k + 1 → badB most r[t] = false) := hide fun h t h1 ht => by
          by_cases e : t = k
          · subst e; exact h
          · exact HA.out t h1 (by omega)
        obtain ⟨x, hxx⟩ : ∃ x, x = r[k] := ⟨_, rfl⟩
        rw [← hxx] at hx HNO HST
        clear hxx
        cases e : badB most x with
        | true =>
          have HE := hide e
          have HF := hide (HNO.out e)
          clear e
          go_wp2_with (go_at_call 97; refine (bad_any _ most q _ hq).mono ?_; rw [HE.out]; rintro e w9 ⟨rfl, rfl⟩)
          go_ret
          exact ⟨k, rfl, by omega, by rw [HF.out]; simp, rfl⟩
        | false =>
          have HE := hide e
          have HST := hide (HST.out e)
          clear e
          go_wp2_with (go_at_call 97; refine (bad_any _ most q _ hq).mono ?_; rw [HE.out]; rintro e w9 ⟨rfl, rfl⟩)
          go_round
          case rel => exact ⟨k + 1, by omega, by go_num, HST.out⟩
          case measure => simp [intOf]; omega
      · have HY := hide (any_no (p := badB most) fun t h => HA.out t h (by have := HN.out; omega))
        go_wp2
        go_ret
        exact ⟨-1, rfl, by omega, by rw [HY.out]; rfl, rfl⟩

set_option maxHeartbeats 400000 in
theorem containsFunc_any (v : Value) (r : List Int) (most : Int) (q : Nat) (w : World) (hin : InRow w v r) (hq : w.cell? ⟨q, 0, none⟩ = some (.int .i64 most)) :
    Calls Tryz.prog 43 #[v, .func (.func 97) #[] #[.pointer (some ⟨q, 0, none⟩)]] w fun e w' => e = .returned (.bool (r.any (badB most))) ∧ w = w' := by
  have HI := hide hin; have HQ := hide hq
  clear hin hq
  go_enter Tryz.func43, Tryz.ntmps43
  go_wp2_with fail
  refine (indexFunc_any v r most q _ HI.out HQ.out).mono ?_
  rintro e w1 ⟨i, rfl, hi, hb, rfl⟩
  have HB := hide hb
  clear hb
  by_cases h : 0 ≤ i
  · go_wp2
    go_ret
    exact ⟨ret_bool (by rw [HB.out]; simp [h]), rfl⟩
  · go_wp2
    go_ret
    exact ⟨ret_bool (by rw [HB.out]), rfl⟩

theorem sumsInRange_any (v : Value) (r : List Int) (most : Int) (w : World) (hin : InRow w v r) :
    Calls Tryz.prog 91 #[v, .int .i64 most] w fun e w' => e = .returned (.bool (!r.any (badB most))) ∧ Below w.heap.size w w' := by
  have HB := hide ((Below.refl w.heap.size w).alloc (Nat.le_refl _) (.cells #[.int .i64 most] 3))
  have HI := hide (inRow_below hin HB.out)
  have HQ := hide (show (w.alloc (.cells #[.int .i64 most] 3)).cell? ⟨w.heap.size, 0, none⟩ = some (.int .i64 most) by simp [World.cell?_alloc_new])
  clear hin
  go_enter Tryz.func91, Tryz.ntmps91
  go_wp2_with fail
  refine (containsFunc_any v r most w.heap.size _ HI.out HQ.out).mono ?_
  rintro e w1 ⟨rfl, rfl⟩
  go_wp2
  go_ret
  exact ⟨rfl, HB.out⟩

theorem sum_snoc (r : List Int) (k : Nat) (h : k < r.length) : (r.take (k + 1)).sum = (r.take k).sum + r[k] := by
  rw [List.take_succ_eq_append_getElem h, List.sum_append]; simp
def SmallL (r : List Int) : Prop := r.length ≤ 5 ∧ ∀ i, (h : i < r.length) → 0 ≤ r[i] ∧ r[i] ≤ 5
theorem sum_small {r : List Int} (h : SmallL r) : ∀ k, k ≤ r.length → 0 ≤ (r.take k).sum ∧ (r.take k).sum ≤ 5 * k := by
  intro k
  induction k with
  | zero => intro _; simp
  | succ k ih =>
    intro hk
    have := ih (by omega)
    have := h.2 k (by omega)
    rw [sum_snoc r k (by omega)]; omega
set_option maxHeartbeats 400000 in
theorem totalOf_any (v : Value) (r : List Int) (w : World) (hin : InRow w v r) (hs : SmallL r) :
    Calls Tryz.prog 100 #[v] w fun e w' => e = .returned (.int .i64 r.sum) ∧ w = w' := by
  obtain ⟨a, c, rfl, hm, hp⟩ := hin
  unfold maxLen at hm
  have HS := hide hs
  by_cases h0 : r.length = 0
  · have hr : r = [] := List.eq_nil_of_length_eq_zero h0
    subst hr
    clear hp h0 hm hs
    go_enter Tryz.func100, Tryz.ntmps100
    go_wp2
    go_loop [3, 8] (fun s i => s = .int .i64 0 ∧ i = .int .i64 0) (fun _ _ => 0)
    case atStart => exact ⟨rfl, rfl⟩
    case round =>
      obtain ⟨rfl, rfl⟩ := hrel
      go_wp2
      go_ret
      exact ⟨rfl, rfl⟩
  · obtain ⟨g, o, rfl, hg, hc⟩ := hp.resolve_left h0
    have HC := hide hc
    have h5 := hs.1
    obtain ⟨n, hn⟩ : ∃ n, n = r.length := ⟨_, rfl⟩
    have HN := hide hn
    rw [← hn] at hm h5 ⊢
    clear hp hc h0 hn hs
    go_enter Tryz.func100, Tryz.ntmps100
    go_wp2
    go_loop [3, 8] (fun s i => ∃ k : Nat, k ≤ n ∧ i = .int .i64 k ∧ s = .int .i64 (r.take k).sum) (fun _ i => n - (intOf i).toNat)
    case atStart => exact ⟨0, Nat.zero_le _, rfl, rfl⟩
    case round =>
      obtain ⟨k, hk, rfl, rfl⟩ := hrel
      obtain ⟨b1, b2⟩ := sum_small HS.out k (by rw [← HN.out]; exact hk)
      by_cases hlt : k < n
      · have hk' : k < r.length := by rw [← HN.out]; exact hlt
        have hx := HC.out k hk'
        have HST := hide (sum_snoc r k hk')
        obtain ⟨b3, b4⟩ := HS.out.2 k hk'
        obtain ⟨x, hxx⟩ : ∃ x, x = r[k] := ⟨_, rfl⟩
        obtain ⟨S, hSS⟩ : ∃ S, S = (r.take k).sum := ⟨_, rfl⟩
        rw [← hxx] at hx HST b3 b4
        rw [← hSS] at HST b1 b2 ⊢
        clear hxx hSS
        go_wp2
        go_round
        case rel => exact ⟨k + 1, by omega, by go_num, by rw [HST.out]⟩
        case measure => simp [intOf]; omega
      · have HE : Hid ((r.take k).sum = r.sum) := hide (by rw [List.take_of_length_le (by have := HN.out; omega)])
        rw [HE.out]
        clear b1 b2
        go_wp2
        go_ret
        exact ⟨rfl, rfl⟩

set_option maxHeartbeats 400000 in
theorem l03Total_any (v : Value) (r : List Int) (w : World) (hin : InRow w v r) (hs : SmallL r) :
    Calls Tryz.prog 53 #[v] w fun e w' => e = .returned (.int .i64 r.sum) ∧ w = w' := by
  obtain ⟨a, c, rfl, hm, hp⟩ := hin
  unfold maxLen at hm
  have HS := hide hs
  by_cases h0 : r.length = 0
  · have hr : r = [] := List.eq_nil_of_length_eq_zero h0
    subst hr
    clear hp h0 hm hs
    go_enter Tryz.func53, Tryz.ntmps53
    go_wp2
    go_loop [3, 8] (fun s i => s = .int .i64 0 ∧ i = .int .i64 0) (fun _ _ => 0)
    case atStart => exact ⟨rfl, rfl⟩
    case round =>
      obtain ⟨rfl, rfl⟩ := hrel
      go_wp2
      go_ret
      exact ⟨rfl, rfl⟩
  · obtain ⟨g, o, rfl, hg, hc⟩ := hp.resolve_left h0
    have HC := hide hc
    have h5 := hs.1
    obtain ⟨n, hn⟩ : ∃ n, n = r.length := ⟨_, rfl⟩
    have HN := hide hn
    rw [← hn] at hm h5 ⊢
    clear hp hc h0 hn hs
    go_enter Tryz.func53, Tryz.ntmps53
    go_wp2
    go_loop [3, 8] (fun s i => ∃ k : Nat, k ≤ n ∧ i = .int .i64 k ∧ s = .int .i64 (r.take k).sum) (fun _ i => n - (intOf i).toNat)
    case atStart => exact ⟨0, Nat.zero_le _, rfl, rfl⟩
    case round =>
      obtain ⟨k, hk, rfl, rfl⟩ := hrel
      obtain ⟨b1, b2⟩ := sum_small HS.out k (by rw [← HN.out]; exact hk)
      by_cases hlt : k < n
      · have hk' : k < r.length := by rw [← HN.out]; exact hlt
        have hx := HC.out k hk'
        have HST := hide (sum_snoc r k hk')
        obtain ⟨b3, b4⟩ := HS.out.2 k hk'
        obtain ⟨x, hxx⟩ : ∃ x, x = r[k] := ⟨_, rfl⟩
        obtain ⟨S, hSS⟩ : ∃ S, S = (r.take k).sum := ⟨_, rfl⟩
        rw [← hxx] at hx HST b3 b4
        rw [← hSS] at HST b1 b2 ⊢
        clear hxx hSS
        go_wp2
        go_round
        case rel => exact ⟨k + 1, by omega, by go_num, by rw [HST.out]⟩
        case measure => simp [intOf]; omega
      · have HE : Hid ((r.take k).sum = r.sum) := hide (by rw [List.take_of_length_le (by have := HN.out; omega)])
        rw [HE.out]
        clear b1 b2
        go_wp2
        go_ret
        exact ⟨rfl, rfl⟩

/-- What SumsOk returns. -/
def sumsOk (r c : List Int) : Bool := sizeOk r.length c.length && !r.any (badB c.length) && !c.any (badB r.length) && r.sum == c.sum
theorem small_of {r : List Int} {m : Int} (hl : r.length ≤ 5) (hm : m ≤ 5) (h : r.any (badB m) = false) : SmallL r := by
  refine ⟨hl, fun i hi => ?_⟩
  rw [List.any_eq_false] at h
  have := h _ (List.getElem_mem hi)
  simp only [badB, Bool.or_eq_true, decide_eq_true_eq, not_or] at this
  omega
set_option maxHeartbeats 1000000 in
theorem implSumsOk_any (va vb : Value) (r c : List Int) (w : World) (ha : InRow w va r) (hb : InRow w vb c) :
    Calls Tryz.prog 98 #[va, vb] w fun e w' => e = .returned (.bool (sumsOk r c)) ∧ Below w.heap.size w w' := by
  obtain ⟨a, ca, rfl, hma, hpa⟩ := ha
  obtain ⟨b, cb, rfl, hmb, hpb⟩ := hb
  have HA : Hid (InRow w (.slice a r.length ca) r) := hide ⟨a, ca, rfl, hma, hpa⟩
  have HB : Hid (InRow w (.slice b c.length cb) c) := hide ⟨b, cb, rfl, hmb, hpb⟩
  clear hpa hpb
  unfold maxLen at hma hmb
  obtain ⟨R, hR⟩ : ∃ R, R = r.length := ⟨_, rfl⟩
  obtain ⟨C, hC⟩ : ∃ C, C = c.length := ⟨_, rfl⟩
  have HRR := hide hR; have HCC := hide hC
  have HS : Hid (sumsOk r c = (decide ((1 : Int) ≤ R ∧ (R : Int) ≤ 5) && decide ((1 : Int) ≤ C ∧ (C : Int) ≤ 5) && !r.any (badB C) && !c.any (badB R) && r.sum == c.sum)) := hide (by rw [sumsOk, sizeOk, hR, hC])
  rw [← hR] at HA hma ⊢
  rw [← hC] at HB hmb ⊢
  rw [HS.out]
  by_cases h1 : 1 ≤ R ∧ R ≤ 5
  · have H1 : Hid (decide ((1 : Int) ≤ R ∧ (R : Int) ≤ 5) = true) := hide (decide_eq_true (by omega))
    rw [H1.out]
    by_cases h2 : 1 ≤ C ∧ C ≤ 5
    · have H2 : Hid (decide ((1 : Int) ≤ C ∧ (C : Int) ≤ 5) = true) := hide (decide_eq_true (by omega))
      rw [H2.out]
      cases h3 : r.any (badB C) with
      | true =>
        have H3 := hide h3
        clear hR hC h3
        go_enter Tryz.func98, Tryz.ntmps98
        go_wp2_with (first | (with_reducible refine (sideOk_any (R : Int) _).mono ?_; rw [H1.out]; rintro e w' ⟨rfl, rfl⟩) | (with_reducible refine (sideOk_any (C : Int) _).mono ?_; rw [H2.out]; rintro e w' ⟨rfl, rfl⟩) | ((with_reducible refine (sumsInRange_any _ r (C : Int) _ HA.out).mono ?_); rw [H3.out]; rintro e w1 ⟨rfl, b1⟩; have B1 := hide b1; clear b1))
        go_ret
        exact ⟨rfl, B1.out⟩
      | false =>
        have HSA := hide (small_of (m := C) (by rw [← hR]; exact h1.2) (by omega) h3)
        have H3 := hide h3
        cases h4 : c.any (badB R) with
        | true =>
          have H4 := hide h4
          clear hR hC h3 h4
          go_enter Tryz.func98, Tryz.ntmps98
          go_wp2_with (first | (with_reducible refine (sideOk_any (R : Int) _).mono ?_; rw [H1.out]; rintro e w' ⟨rfl, rfl⟩) | (with_reducible refine (sideOk_any (C : Int) _).mono ?_; rw [H2.out]; rintro e w' ⟨rfl, rfl⟩) | ((with_reducible refine (sumsInRange_any _ r (C : Int) _ HA.out).mono ?_); rw [H3.out]; rintro e w1 ⟨rfl, b1⟩; have B1 := hide b1; clear b1) | ((with_reducible refine (sumsInRange_any _ c (R : Int) _ (inRow_below HB.out B1.out)).mono ?_); rw [H4.out]; rintro e w2 ⟨rfl, b2⟩; have B2 := hide (B1.out.trans (b2.mono B1.out.size)); clear b2))
          go_ret
          exact ⟨rfl, B2.out⟩
        | false =>
          have HSB := hide (small_of (m := R) (by rw [← hC]; exact h2.2) (by omega) h4)
          have H4 := hide h4
          clear hR hC h3 h4
          obtain ⟨p1, p2⟩ := sum_small HSA.out r.length (Nat.le_refl _)
          obtain ⟨q1, q2⟩ := sum_small HSB.out c.length (Nat.le_refl _)
          rw [List.take_length] at p1 p2 q1 q2
          have TA := fun w hw => totalOf_any (.slice a R ca) r w hw HSA.out
          have TB := fun w hw => totalOf_any (.slice b C cb) c w hw HSB.out
          obtain ⟨X, hX⟩ : ∃ X, X = r.sum := ⟨_, rfl⟩
          obtain ⟨Y, hY⟩ : ∃ Y, Y = c.sum := ⟨_, rfl⟩
          rw [← hX] at TA p1 p2 ⊢
          rw [← hY] at TB q1 q2 ⊢
          have TA := hide TA; have TB := hide TB
          clear hX hY
          go_enter Tryz.func98, Tryz.ntmps98
          go_wp2_with (first | (with_reducible refine (sideOk_any (R : Int) _).mono ?_; rw [H1.out]; rintro e w' ⟨rfl, rfl⟩) | (with_reducible refine (sideOk_any (C : Int) _).mono ?_; rw [H2.out]; rintro e w' ⟨rfl, rfl⟩) | ((with_reducible refine (sumsInRange_any _ r (C : Int) _ HA.out).mono ?_); rw [H3.out]; rintro e w1 ⟨rfl, b1⟩; have B1 := hide b1; clear b1) | ((with_reducible refine (sumsInRange_any _ c (R : Int) _ (inRow_below HB.out B1.out)).mono ?_); rw [H4.out]; rintro e w2 ⟨rfl, b2⟩; have B2 := hide (B1.out.trans (b2.mono B1.out.size)); clear b2) | ((with_reducible refine (TA.out _ (inRow_below HA.out B2.out)).mono ?_); rintro e w' ⟨rfl, rfl⟩) | ((with_reducible refine (TB.out _ (inRow_below HB.out B2.out)).mono ?_); rintro e w' ⟨rfl, rfl⟩))
          go_ret
          exact ⟨ret_bool (by simp), B2.out⟩
    · have H2 : Hid (decide ((1 : Int) ≤ C ∧ (C : Int) ≤ 5) = false) := hide (decide_eq_false (by omega))
      rw [H2.out]
      clear hR hC h1 h2
      go_enter Tryz.func98, Tryz.ntmps98
      go_wp2_with (first | (with_reducible refine (sideOk_any (R : Int) _).mono ?_; rw [H1.out]; rintro e w' ⟨rfl, rfl⟩) | (with_reducible refine (sideOk_any (C : Int) _).mono ?_; rw [H2.out]; rintro e w' ⟨rfl, rfl⟩))
      go_ret
      exact ⟨rfl, Below.refl _ _⟩
  · have H1 : Hid (decide ((1 : Int) ≤ R ∧ (R : Int) ≤ 5) = false) := hide (decide_eq_false (by omega))
    rw [H1.out]
    clear hR hC h1
    go_enter Tryz.func98, Tryz.ntmps98
    go_wp2_with (first | (with_reducible refine (sideOk_any (R : Int) _).mono ?_; rw [H1.out]; rintro e w' ⟨rfl, rfl⟩))
    go_ret
    exact ⟨rfl, Below.refl _ _⟩

theorem bad_in (m x : Int) : decide (0 ≤ x ∧ x ≤ m) = !badB m x := by
  unfold badB
  by_cases h : 0 ≤ x ∧ x ≤ m
  · rw [decide_eq_true h, decide_eq_false (by omega), decide_eq_false (by omega)]; rfl
  · rw [decide_eq_false h]
    by_cases h1 : x < 0
    · rw [decide_eq_true h1]; rfl
    · rw [decide_eq_false h1, decide_eq_true (by omega : m < x)]; rfl
set_option maxHeartbeats 1000000 in
theorem specSumsOk_yes (a b : Option Addr) (ca cb : Nat) (r c : List Int) (w : World) (HA : Hid (InRow w (.slice a r.length ca) r)) (HB : Hid (InRow w (.slice b c.length cb) c)) (h1 : 1 ≤ r.length ∧ r.length ≤ 5) (h2 : 1 ≤ c.length ∧ c.length ≤ 5) :
    Calls Tryz.prog 34 #[.slice a r.length ca, .slice b c.length cb] w fun e w' => e = .returned (.bool (sumsOk r c)) ∧ Below w.heap.size w w' := by
  obtain ⟨a', ca', he, hma, hpa⟩ := HA.out
  obtain ⟨b', cb', he2, hmb, hpb⟩ := HB.out
  cases he; cases he2
  obtain ⟨ga, oa, rfl, hga, hca⟩ := hpa.resolve_left (by omega)
  obtain ⟨gb, ob, rfl, hgb, hcb⟩ := hpb.resolve_left (by omega)
  have HCA := hide hca; have HCB := hide hcb
  clear hpa hpb hca hcb
  unfold maxLen at hma hmb
  obtain ⟨R, hR⟩ : ∃ R, R = r.length := ⟨_, rfl⟩
  obtain ⟨C, hC⟩ : ∃ C, C = c.length := ⟨_, rfl⟩
  have HRR := hide hR; have HCC := hide hC
  have HS : Hid (sumsOk r c = (!r.any (badB C) && !c.any (badB R) && r.sum == c.sum)) := hide (by
    rw [sumsOk, sizeOk, hR, hC, decide_eq_true (show (1 : Int) ≤ r.length ∧ (r.length : Int) ≤ 5 by omega), decide_eq_true (show (1 : Int) ≤ c.length ∧ (c.length : Int) ≤ 5 by omega)]; simp)
  rw [← hR] at HA hma h1 ⊢
  rw [← hC] at HB hmb h2 ⊢
  have HZ : Hid (sizeOk R C = true) := hide (by rw [sizeOk, decide_eq_true (show (1 : Int) ≤ R ∧ (R : Int) ≤ 5 by omega), decide_eq_true (show (1 : Int) ≤ C ∧ (C : Int) ≤ 5 by omega)]; rfl)
  obtain ⟨h11, h12⟩ := h1
  obtain ⟨h21, h22⟩ := h2
  clear hR hC
  go_enter Tryz.func34, Tryz.ntmps34
  go_wp2_with (with_reducible refine (l03Size_any (R : Int) (C : Int) _).mono ?_; rw [HZ.out]; rintro e w' ⟨rfl, rfl⟩)
  go_loop [17] (fun i => ∃ k : Nat, k ≤ R ∧ i = .int .i64 k ∧ ∀ t, (h : t < r.length) → t < k → badB C r[t] = false) (fun i => R - (intOf i).toNat)
  case atStart => exact ⟨0, Nat.zero_le _, rfl, fun t _ h => absurd h (Nat.not_lt_zero _)⟩
  case round =>
    obtain ⟨k, hk, rfl, hall⟩ := hrel
    have HALL := hide hall
    clear hall
    by_cases hlt : k < R
    · have hk' : k < r.length := by rw [← HRR.out]; exact hlt
      have hx := HCA.out k hk'
      have HNO := hide (fun h => any_yes (p := badB C) k hk' h)
      have HST : Hid (badB C r[k] = false → ∀ t, (h : t < r.length) → t < k + 1 → badB C r[t] = false) := hide fun h t h1 ht => by
        by_cases e : t = k
        · subst e; exact h
        · exact HALL.out t h1 (by omega)
      obtain ⟨x, hxx⟩ : ∃ x, x = r[k] := ⟨_, rfl⟩
      rw [← hxx] at hx HNO HST
      clear hxx
      have HBI := hide (bad_in C x)
      cases e : badB C x with
      | true =>
        have HE : Hid (decide (0 ≤ x ∧ x ≤ (C : Int)) = false) := hide (by rw [HBI.out, e]; rfl)
        have HF : Hid (sumsOk r c = false) := hide (by rw [HS.out, HNO.out e]; rfl)
        clear e
        go_wp2_with (with_reducible refine (l01In_any x 0 (C : Int) _).mono ?_; rw [HE.out]; rintro e w' ⟨rfl, rfl⟩)
        go_ret
        exact ⟨ret_bool HF.out.symm, Below.refl _ _⟩
      | false =>
        have HE : Hid (decide (0 ≤ x ∧ x ≤ (C : Int)) = true) := hide (by rw [HBI.out, e]; rfl)
        have HST := hide (HST.out e)
        clear e
        go_wp2_with (with_reducible refine (l01In_any x 0 (C : Int) _).mono ?_; rw [HE.out]; rintro e w' ⟨rfl, rfl⟩)
        go_round
        case rel => exact ⟨k + 1, by omega, by go_num, HST.out⟩
        case measure => simp [intOf]; omega
    · have HY := hide (any_no (p := badB C) fun t h => HALL.out t h (by have := HRR.out; omega))
      clear HALL
      go_wp2
      go_loop [29] (fun i => ∃ k : Nat, k ≤ C ∧ i = .int .i64 k ∧ ∀ t, (h : t < c.length) → t < k → badB R c[t] = false) (fun i => C - (intOf i).toNat)
      case atStart => exact ⟨0, Nat.zero_le _, rfl, fun t _ h => absurd h (Nat.not_lt_zero _)⟩
      case round =>
        obtain ⟨j, hj, rfl, hall⟩ := hrel
        have HALL := hide hall
        clear hall
        by_cases hltj : j < C
        · have hk' : j < c.length := by rw [← HCC.out]; exact hltj
          have hx := HCB.out j hk'
          have HNO := hide (fun h => any_yes (p := badB R) j hk' h)
          have HST : Hid (badB R c[j] = false → ∀ t, (h : t < c.length) → t < j + 1 → badB R c[t] = false) := hide fun h t h1 ht => by
            by_cases e : t = j
            · subst e; exact h
            · exact HALL.out t h1 (by omega)
          obtain ⟨x, hxx⟩ : ∃ x, x = c[j] := ⟨_, rfl⟩
          rw [← hxx] at hx HNO HST
          clear hxx
          have HBI := hide (bad_in R x)
          cases e : badB R x with
          | true =>
            have HE : Hid (decide (0 ≤ x ∧ x ≤ (R : Int)) = false) := hide (by rw [HBI.out, e]; rfl)
            have HF : Hid (sumsOk r c = false) := hide (by rw [HS.out, HY.out, HNO.out e]; rfl)
            clear e
            go_wp2_with (with_reducible refine (l01In_any x 0 (R : Int) _).mono ?_; rw [HE.out]; rintro e w' ⟨rfl, rfl⟩)
            go_ret
            exact ⟨ret_bool HF.out.symm, Below.refl _ _⟩
          | false =>
            have HE : Hid (decide (0 ≤ x ∧ x ≤ (R : Int)) = true) := hide (by rw [HBI.out, e]; rfl)
            have HST := hide (HST.out e)
            clear e
            go_wp2_with (with_reducible refine (l01In_any x 0 (R : Int) _).mono ?_; rw [HE.out]; rintro e w' ⟨rfl, rfl⟩)
            go_round
            case rel => exact ⟨j + 1, by omega, by go_num, HST.out⟩
            case measure => simp [intOf]; omega
        · have HY2 := hide (any_no (p := badB R) fun t h => HALL.out t h (by have := HCC.out; omega))
          clear HALL
          have HSA := hide (small_of (m := C) (by rw [← HRR.out]; exact h12) (by omega) HY.out)
          have HSB := hide (small_of (m := R) (by rw [← HCC.out]; exact h22) (by omega) HY2.out)
          obtain ⟨p1, p2⟩ := sum_small HSA.out r.length (Nat.le_refl _)
          obtain ⟨q1, q2⟩ := sum_small HSB.out c.length (Nat.le_refl _)
          rw [List.take_length] at p1 p2 q1 q2
          have TA := fun w hw => l03Total_any (.slice (some ⟨ga, oa, none⟩) R ca) r w hw HSA.out
          have TB := fun w hw => l03Total_any (.slice (some ⟨gb, ob, none⟩) C cb) c w hw HSB.out
          have hf : sumsOk r c = (r.sum == c.sum) := by rw [HS.out, HY.out, HY2.out]; rfl
          obtain ⟨X, hX⟩ : ∃ X, X = r.sum := ⟨_, rfl⟩
          obtain ⟨Y, hY⟩ : ∃ Y, Y = c.sum := ⟨_, rfl⟩
          rw [← hX] at TA p1 p2 hf
          rw [← hY] at TB q1 q2 hf
          have TA := hide TA; have TB := hide TB; have HF := hide hf
          clear hX hY hf
          go_wp2_with (first | ((with_reducible refine (TA.out _ HA.out).mono ?_); rintro e w' ⟨rfl, rfl⟩) | ((with_reducible refine (TB.out _ HB.out).mono ?_); rintro e w' ⟨rfl, rfl⟩))
          go_ret
          exact ⟨ret_bool (by rw [HF.out]), Below.refl _ _⟩
theorem specSumsOk_any (va vb : Value) (r c : List Int) (w : World) (ha : InRow w va r) (hb : InRow w vb c) :
    Calls Tryz.prog 34 #[va, vb] w fun e w' => e = .returned (.bool (sumsOk r c)) ∧ Below w.heap.size w w' := by
  obtain ⟨a, ca, rfl, hma, hpa⟩ := ha
  obtain ⟨b, cb, rfl, hmb, hpb⟩ := hb
  have HA : Hid (InRow w (.slice a r.length ca) r) := hide ⟨a, ca, rfl, hma, hpa⟩
  have HB : Hid (InRow w (.slice b c.length cb) c) := hide ⟨b, cb, rfl, hmb, hpb⟩
  by_cases h : (1 ≤ r.length ∧ r.length ≤ 5) ∧ 1 ≤ c.length ∧ c.length ≤ 5
  · exact specSumsOk_yes a b ca cb r c w HA HB h.1 h.2
  · have HZ : Hid (sizeOk r.length c.length = false) := hide (by
      cases e : sizeOk r.length c.length with
      | false => rfl
      | true => have := sizeOk_yes e; omega)
    have HS : Hid (sumsOk r c = false) := hide (by rw [sumsOk, HZ.out]; rfl)
    rw [HS.out]
    clear hpa hpb h
    unfold maxLen at hma hmb
    obtain ⟨R, hR⟩ : ∃ R, R = r.length := ⟨_, rfl⟩
    obtain ⟨C, hC⟩ : ∃ C, C = c.length := ⟨_, rfl⟩
    rw [← hR, ← hC] at HZ ⊢
    rw [← hR] at hma
    rw [← hC] at hmb
    clear hR hC HA HB
    go_enter Tryz.func34, Tryz.ntmps34
    go_wp2_with (with_reducible refine (l03Size_any (R : Int) (C : Int) _).mono ?_; rw [HZ.out]; rintro e w' ⟨rfl, rfl⟩)
    go_ret
    exact ⟨rfl, Below.refl _ _⟩
end Go.Proofs.YtjnnoabaepmcnaaGreat
