/-
  Texts of this claim, one behind the other: Need, Pen, Rs, SumF, Swap, Val.
-/
import Derived.Test.YtjnnoabaepmcnaaPackB
import Derived.Test.YtjnnoabaepmcnaaPackC
import Derived.Test.YtjnnoabaepmcnaaPackA
import Derived.Test.YtjnnoabaepmcnaaPackD
/-
  A region that draws its order, whose operations may write: each must keep only what an operation that may still come up reads.
-/
namespace Go.Proofs.Ytjnnoabaepmcnaa
open Go.RowKit

/-- Operation i waits, at some remove, for operation k. -/
def anc (l : List Oper) : Nat → Nat → Nat → Bool
  | 0, _, _ => false
  | f + 1, i, k => match l[i]? with
    | none => false
    | some o => (List.range i).any fun e => depT o e && (e == k || anc l f e k)
/-- Operation o reads what j has left. -/
def datT (o : Oper) (j : Nat) : Bool := o.after.any fun e => e.on == j && Region.binds .any e && (match e.ground with | .data => true | .guard => true | _ => false)
def dataOnly (o : Oper) : Bool := o.after.toList.all fun e => !Region.binds .any e || datT o e.on
/-- Some operation that may come up behind i reads what j has left. -/
def needB (l : List Oper) (i j : Nat) : Bool :=
  j != i && (List.range l.length).any fun k => k != i && !anc l l.length i k && (match l[k]? with | none => false | some o => datT o j)
theorem needB_of {l : List Oper} {i j k : Nat} {o : Oper} (hij : j ≠ i) (hk : l[k]? = some o) (hi : k ≠ i) (ha : anc l l.length i k = false) (hd : datT o j = true) : needB l i j = true := by
  unfold needB
  rw [Bool.and_eq_true, List.any_eq_true]
  refine ⟨by simpa using hij, k, List.mem_range.2 (List.getElem?_eq_some_iff.1 hk).1, ?_⟩
  simp [hk, hi, ha, hd]
/-- All that needB can say of i. -/
def needL (l : List Oper) (i : Nat) : List Nat :=
  ((List.range l.length).flatMap fun k => if k != i && !anc l l.length i k then (match l[k]? with | none => [] | some o => o.after.toList.map (·.on)) else []).filter fun j => j != i && needB l i j
theorem needL_of {l : List Oper} {i j : Nat} (h : needB l i j = true) : j ∈ needL l i := by
  have h0 := h
  unfold needB at h
  rw [Bool.and_eq_true, List.any_eq_true] at h
  obtain ⟨hj, k, hk, h⟩ := h
  unfold needL
  rw [List.mem_filter]
  refine ⟨List.mem_flatMap.2 ⟨k, hk, ?_⟩, by rw [hj, h0]; rfl⟩
  rw [Bool.and_eq_true] at h
  obtain ⟨h1, h2⟩ := h
  rw [if_pos h1]
  cases hl : l[k]? with
  | none => rw [hl] at h2; cases h2
  | some o =>
    rw [hl] at h2
    have h2' : datT o j = true := h2
    unfold datT at h2'
    rw [Array.any_eq_true] at h2'
    obtain ⟨n, hn, h3⟩ := h2'
    simp only [Bool.and_eq_true, beq_iff_eq] at h3
    exact List.mem_map.2 ⟨_, Array.getElem_mem_toList hn, h3.1.1⟩

section
variable {P : Program} {ops : Array Oper} {Q : Exit → Act → World → Prop}

theorem depT_iff {o : Oper} {j : Nat} : depT o j = true ↔ ∃ e ∈ o.after, e.on = j ∧ Region.binds .any e = true := by
  unfold depT
  rw [Array.any_eq_true]
  constructor
  · rintro ⟨n, hn, h⟩
    simp only [Bool.and_eq_true, beq_iff_eq] at h
    exact ⟨_, Array.getElem_mem hn, h⟩
  · rintro ⟨e, he, h1, h2⟩
    obtain ⟨n, hn, rfl⟩ := Array.getElem_of_mem he
    exact ⟨n, hn, by simp [h1, h2]⟩
theorem datT_dep {o : Oper} {j : Nat} (h : datT o j = true) : depT o j = true := by
  unfold datT at h
  rw [Array.any_eq_true] at h
  obtain ⟨n, hn, h⟩ := h
  simp only [Bool.and_eq_true, beq_iff_eq] at h
  exact depT_iff.2 ⟨_, Array.getElem_mem hn, h.1.1, h.1.2⟩
theorem dat_of {o : Oper} (h : dataOnly o = true) {j : Nat} (hd : depT o j = true) : datT o j = true := by
  obtain ⟨e, he, rfl, hb⟩ := depT_iff.1 hd
  unfold dataOnly at h
  rw [List.all_eq_true] at h
  have := h e (by simpa using he)
  rw [hb] at this
  simpa using this
theorem anc_listed {listed : Array Bool} (hc : Closed .any ops listed) : ∀ (f i k : Nat) (o : Oper), ops[i]? = some o → (∀ e ∈ o.after, Region.binds .any e = true → listed.getD e.on false = true) → anc ops.toList f i k = true → listed.getD k false = true
  | 0, _, _, _, _, _, h => by cases h
  | f + 1, i, k, o, hi, hall, h => by
    unfold anc at h
    have hi' : ops.toList[i]? = some o := by simpa using hi
    rw [hi'] at h
    simp only [List.any_eq_true, Bool.and_eq_true, Bool.or_eq_true, beq_iff_eq] at h
    obtain ⟨e, -, hd, h⟩ := h
    obtain ⟨x, hx, rfl, hb⟩ := depT_iff.1 hd
    have hl := hall x hx hb
    rcases h with h | h
    · rw [← h]; exact hl
    · cases hx' : ops[x.on]? with
      | none =>
        exfalso
        cases f with
        | zero => cases h
        | succ f =>
          unfold anc at h
          have : ops.toList[x.on]? = none := by simpa using hx'
          rw [this] at h; cases h
      | some ox => exact anc_listed hc f x.on k ox hx' (fun e he hbe => hc x.on ox hx' hl e he hbe) h

/-- The frame and the world while the region runs: what is listed and still read holds in its slot. -/
structure MidN (ops : Array Oper) (a0 : Act) (S : World → Prop) (F : Nat → Value → World → Prop) (listed : Array Bool) (a : Act) (w : World) : Prop where
  size : listed.size = ops.size
  tmps : a.tmps.size = a0.tmps.size
  defers : a.defers = a0.defers
  out : ∀ t, outside ops t = true → a.tmps.getD t undef = a0.tmps.getD t undef
  world : S w
  held : ∀ (i : Nat) (o : Oper) (d : Tmp), ops[i]? = some o → o.dst = some d → listed.getD i false = true → (∃ k ok, ops[k]? = some ok ∧ listed.getD k true = false ∧ datT ok i = true) → F i (a.tmps.getD d undef) w

def EachN (P : Program) (ops : Array Oper) (Q : Exit → Act → World → Prop) (a0 : Act) (S : World → Prop) (F : Nat → Value → World → Prop) (i : Nat) (o : Oper) : Prop :=
  ∀ (a : Act) (w : World), a.tmps.size = a0.tmps.size → a.defers = a0.defers → (∀ t, outside ops t = true → a.tmps.getD t undef = a0.tmps.getD t undef) → S w →
    (∀ (j : Nat) (oe : Oper) (d : Tmp), datT o j = true → ops[j]? = some oe → oe.dst = some d → F j (a.tmps.getD d undef) w) →
    ∀ K : Act → World → Prop, (∀ v w', S w' → (∀ j, needB ops.toList i j = true → ∀ u, F j u w → F j u w') → F i v w' → K (a.put o.dst v) w') → wpOp P ops Q i K a w

theorem wpAny_need {a0 : Act} {S : World → Prop} {F : Nat → Value → World → Prop} {last : Oper} (ho : orderly .any a0.tmps.size 0 [] ops.toList = true) (ht : tails .any ops.toList = true) (hl : ops[ops.size - 1]? = some last)
    (hop : ∀ (i : Nat) (o : Oper), ops[i]? = some o → i < ops.size - 1 → EachN P ops Q a0 S F i o)
    (hlast : ∀ (a : Act) (w : World), a.tmps.size = a0.tmps.size → a.defers = a0.defers → (∀ t, outside ops t = true → a.tmps.getD t undef = a0.tmps.getD t undef) → S w →
      (∀ (i : Nat) (o : Oper) (d : Tmp), ops[i]? = some o → i < ops.size - 1 → o.dst = some d → datT last i = true → F i (a.tmps.getD d undef) w) → ∀ K : Act → World → Prop, (∀ a' w', Q .normal a' w' → K a' w') → wpOp P ops Q (ops.size - 1) K a w) :
    ∀ (fuel : Nat) (listed : Array Bool) (a : Act) (w : World), MidN ops a0 S F listed a w → Closed .any ops listed → listed.getD (ops.size - 1) true = false → unl listed ops.size ≤ fuel → wpAny P .any ops Q fuel listed a w := by
  have hlt0 : ops.size - 1 < ops.size := (Array.getElem?_eq_some_iff.1 hl).1
  have hon : ∀ (i : Nat) (o : Oper), ops[i]? = some o → ∀ e ∈ o.after, Region.binds .any e = true → e.on < i := fun i o hi e he hbd => by
    have := orderly_on ops.toList 0 [] ho i o (by simpa using hi) e he hbd; omega
  have hdst : ∀ (i : Nat) (o : Oper) (d : Tmp), ops[i]? = some o → o.dst = some d → d < a0.tmps.size := fun i o d hi hd => (orderly_dst ops.toList 0 [] ho i o d (by simpa using hi) hd).1
  have hone : ∀ (i : Nat) (o : Oper) (d : Tmp), ops[i]? = some o → o.dst = some d → ∀ (j : Nat) (o' : Oper), ops[j]? = some o' → i ≠ j → o'.dst ≠ some d := fun i o d hi hd j o' hj hij e => by
    rcases Nat.lt_or_gt_of_ne hij with h | h
    · exact (orderly_dst ops.toList 0 [] ho i o d (by simpa using hi) hd).2.2 j o' (by simpa using hj) h e
    · exact (orderly_dst ops.toList 0 [] ho j o' d (by simpa using hj) e).2.2 i o (by simpa using hi) h hd
  intro fuel
  induction fuel with
  | zero =>
    intro listed a w hm hcl hul hf
    exfalso
    have := unl_set listed _ hul ops.size
    rw [if_pos hlt0] at this
    omega
  | succ fuel ih =>
    intro listed a w hm hcl hul hf
    refine ⟨fun hr => ?_, fun i hi => ?_⟩
    · exfalso
      have h1 := ready_none hm.size hon hr _ hlt0
      have hlt : ops.size - 1 < listed.size := by have := hm.size; omega
      simp [hlt] at hul h1
      rw [h1] at hul; cases hul
    obtain ⟨hul2, o, ho', hall⟩ := mem_ready.1 hi
    have hlt : i < ops.size := (Array.getElem?_eq_some_iff.1 ho').1
    by_cases e : i = ops.size - 1
    · subst e
      rw [hl] at ho'
      obtain rfl := Option.some.inj ho'
      have hab := fun j hj => all_before ht hcl hl hall _ j (Nat.le_refl _) hj
      refine hlast a w hm.tmps hm.defers hm.out hm.world (fun j oj d hj hjl hd hdep => hm.held j oj d hj hd (hab j hjl) ⟨_, _, hl, hul2, hdep⟩) _ fun a' w' hq => ?_
      have hrd : Region.ready .any ops (listed.setIfInBounds (ops.size - 1) true) = [] := by
        rw [List.eq_nil_iff_forall_not_mem]
        intro j hj
        obtain ⟨hl', o', ho'', -⟩ := mem_ready.1 hj
        have hj' : j < ops.size := (Array.getElem?_eq_some_iff.1 ho'').1
        have hls : ops.size - 1 < listed.size := by have := hm.size; omega
        by_cases ej : ops.size - 1 = j
        · subst ej; simp [hls] at hl'
        · rw [getD_set_ne true ej] at hl'
          have h1 := hab j (by omega)
          have hjs : j < listed.size := by have := hm.size; omega
          simp [hjs] at hl' h1
          rw [h1] at hl'; cases hl'
      cases fuel with
      | zero => exact ⟨hrd, hq⟩
      | succ fuel => exact ⟨fun _ => hq, fun j hj => by rw [hrd] at hj; cases hj⟩
    · refine hop i o ho' (by omega) a w hm.tmps hm.defers hm.out hm.world (fun j oe d hdj hoe hd => by
        obtain ⟨e, he, rfl, hb⟩ := depT_iff.1 (datT_dep hdj)
        exact hm.held e.on oe d hoe hd (hall e he hb) ⟨i, o, ho', hul2, hdj⟩) _ fun v w' hS hst hF => ?_
      have hls : listed.size = ops.size := hm.size
      refine ih _ _ _ ⟨by simp [hm.size], ?_, ?_, fun t ht => ?_, hS, fun j oj d hj hd hlj hcons => ?_⟩ (fun k ok hk hlk e' he' hb' => ?_) ?_ ?_
      · cases o.dst <;> simp [Act.put, hm.tmps]
      · cases o.dst <;> simp [Act.put, hm.defers]
      · rw [← hm.out t ht]
        cases hd : o.dst with
        | none => rfl
        | some d =>
          have hne : d ≠ t := by
            intro e; subst e
            unfold outside at ht
            rw [Array.all_eq_true_iff_forall_mem] at ht
            have := ht o (Array.mem_of_getElem? ho')
            rw [hd] at this; simp at this
          simp [Act.put, Array.getElem?_setIfInBounds_ne hne]
      · by_cases e : i = j
        · subst e
          rw [ho'] at hj
          obtain rfl := Option.some.inj hj
          have hdl : d < a.tmps.size := by rw [hm.tmps]; exact hdst i o d ho' hd
          have : (a.put o.dst v).tmps.getD d undef = v := by rw [hd]; simp [Act.put, hdl]
          rw [this]; exact hF
        · have h1 : listed.getD j false = true := by rw [getD_set_ne false e] at hlj; exact hlj
          obtain ⟨k, ok, hk, huk, hdk⟩ := hcons
          have hki : i ≠ k := by
            intro e'; subst e'
            simp [show i < listed.size by omega] at huk
          have huk' : listed.getD k true = false := by rw [getD_set_ne true hki] at huk; exact huk
          have hanc : anc ops.toList ops.toList.length i k = false := by
            cases h : anc ops.toList ops.toList.length i k with
            | false => rfl
            | true =>
              have := anc_listed hcl _ i k o ho' hall h
              have hks : k < listed.size := by rw [hls]; exact (Array.getElem?_eq_some_iff.1 hk).1
              simp [hks] at this huk'
              rw [this] at huk'; cases huk'
          have h2 := hm.held j oj d hj hd h1 ⟨k, ok, hk, huk', hdk⟩
          have h3 : (a.put o.dst v).tmps.getD d undef = a.tmps.getD d undef := by
            cases hd' : o.dst with
            | none => rfl
            | some d' =>
              have hne : d' ≠ d := fun e' => hone j oj d hj hd i o ho' (Ne.symm e) (by rw [hd', e'])
              simp [Act.put, Array.getElem?_setIfInBounds_ne hne]
          rw [h3]; exact hst j (needB_of (Ne.symm e) (by simpa using hk) (Ne.symm hki) hanc hdk) _ h2
      · by_cases ek : i = k
        · subst ek
          rw [ho'] at hk
          obtain rfl := Option.some.inj hk
          have h1 := hall e' he' hb'
          have h2 : i ≠ e'.on := by have := hon i o ho' e' he' hb'; omega
          rw [getD_set_ne false h2]; exact h1
        · rw [getD_set_ne false ek] at hlk
          have h1 := hcl k ok hk hlk e' he' hb'
          by_cases e2 : i = e'.on
          · rw [← e2]; simp [show i < listed.size by omega]
          · rw [getD_set_ne false e2]; exact h1
      · rw [getD_set_ne true e]; exact hul
      · have := unl_set listed i hul2 ops.size
        rw [if_pos hlt] at this; omega

/-- What is asked of one operation: it keeps what may still be read. -/
def Obn (P : Program) (Q : Exit → Act → World → Prop) (l : List Oper) (base : List (Tmp × Value)) (dsts : List (Option Tmp)) (S : World → Prop) (fs : List FactP) (i : Nat) (o : Oper) : Prop :=
  ∀ (a : Act) (w : World), S w → (∀ t v, base.lookup t = some v → a.tmps.getD t undef = v) →
    (∀ j d, dsts[j]? = some (some d) → datT o j = true → factP fs j (a.tmps.getD d undef) w) →
    ∀ K : Act → World → Prop, (∀ v w', S w' → (∀ j, needB l i j = true → ∀ u, factP fs j u w → factP fs j u w') → factP fs i v w' → K (a.put o.dst v) w') →
      (o.guard = none ∨ ∃ j d, o.guard = some (j, true) ∧ dsts[j]? = some (some d) ∧ a.tmps.getD d undef = .bool true) ∧ o.wp P a w K Q
theorem obn_of {l : List Oper} {base : List (Tmp × Value)} {dsts : List (Option Tmp)} {S : World → Prop} {fs : List FactP} {i : Nat} {o : Oper} (hd : dataOnly o = true) (h : Obt P Q base dsts S fs i o) : Obn P Q l base dsts S fs i o :=
  fun a w h1 h2 h3 K hK => h a w h1 h2 (fun j d hj hdj => h3 j d hj (dat_of hd hdj)) K fun v w' g1 g2 g3 => hK v w' g1 (fun j _ u => g2 j u) g3

theorem wp_region_need {id : Nat} {a : Act} {w : World} {S : World → Prop} (fs : List FactP) (base : List (Tmp × Value)) (dsts : List (Option Tmp)) (last : Oper) (k : Nat)
    (hm : P.follows .mixedOrders = true) (hk : ops.size = k + 1) (hlk : ops[k]? = some last) (ho : orderly .any a.tmps.size 0 [] ops.toList = true) (ht : tails .any ops.toList = true) (hd : ops.toList.map (·.dst) = dsts)
    (hbo : base.all (fun p => outside ops p.1) = true) (hb : ∀ t v, base.lookup t = some v → a.tmps.getD t undef = v)
    (hS : S w.drew) (hob : AllOps (Obn P Q ops.toList base dsts S fs) 0 ops.toList.dropLast) (hgl : last.guard = none)
    (hlast : ∀ (a' : Act) (w' : World), a'.tmps.size = a.tmps.size → a'.defers = a.defers → (∀ t, outside ops t = true → a'.tmps.getD t undef = a.tmps.getD t undef) → S w' →
      (∀ j d, dsts[j]? = some (some d) → j < k → datT last j = true → factP fs j (a'.tmps.getD d undef) w') → ∀ K : Act → World → Prop, (∀ v w2, Q .normal (a'.put last.dst v) w2 → K (a'.put last.dst v) w2) → last.wp P a' w' K Q) :
    (Code.region id ops true).wp P Q a w := by
  have hl : ops[ops.size - 1]? = some last := by rw [hk]; exact hlk
  have hdst' : ∀ (j : Nat) (d : Tmp), dsts[j]? = some (some d) → ∃ o, ops[j]? = some o ∧ o.dst = some d := fun j d h => by
    rw [← hd, List.getElem?_map] at h
    cases hj : ops.toList[j]? with
    | none => rw [hj] at h; simp at h
    | some o =>
      rw [hj] at h
      exact ⟨o, by simpa using hj, by simpa using h⟩
  have hmem : ∀ (t : Tmp) (v : Value) (l : List (Tmp × Value)), l.lookup t = some v → ∃ p ∈ l, p.1 = t := fun t v l => by
    induction l with
    | nil => intro h; simp at h
    | cons x r ih =>
      intro h
      rw [List.lookup_cons] at h
      by_cases e : t == x.1
      · exact ⟨x, List.mem_cons_self, (by simpa using e : t = x.1).symm⟩
      · have e' : (t == x.1) = false := by simpa using e
        rw [e'] at h
        obtain ⟨p, hp, hpt⟩ := ih h
        exact ⟨p, List.mem_cons_of_mem _ hp, hpt⟩
  have hstart : ∀ k, k ≤ ops.size → unl (Array.replicate ops.size false) k = k := by
    intro k
    induction k with
    | zero => intro _; rfl
    | succ k ih =>
      intro hk
      rw [unl, ih (by omega)]
      have : (Array.replicate ops.size false).getD k true = false := by simp [show k < ops.size by omega]
      rw [this]; rfl
  refine wp_region_any hm (wpAny_need (F := fun i u w => factP fs i u w) ho ht hl (fun i o hi hil a' w' hts hds hout hSw hdep K hK => ?_) (fun a' w' h1 h2 h3 h4 h5 K hK => ?_) _ _ _ _ ⟨by simp, rfl, rfl, fun _ _ => rfl, hS, fun i o d hi _ hl _ => ?_⟩ (fun k o hk hlk => ?_) ?_ ?_)
  · have hbase : ∀ t v, base.lookup t = some v → a'.tmps.getD t undef = v := fun t v h => by
      obtain ⟨p, hp, rfl⟩ := hmem t v base h
      rw [List.all_eq_true] at hbo
      rw [hout p.1 (hbo p hp)]; exact hb p.1 v h
    have hdep' : ∀ j d, dsts[j]? = some (some d) → datT o j = true → factP fs j (a'.tmps.getD d undef) w' := fun j d h he => by
      obtain ⟨oe, hoe, hde⟩ := hdst' j d h
      exact hdep j oe d he hoe hde
    have hip : ops.toList.dropLast[i]? = some o := by
      have : ops.toList[i]? = some o := by simpa using hi
      rw [List.getElem?_dropLast, if_pos (by simpa using hil)]; exact this
    have hobi := allOps_at _ 0 hob i o hip
    rw [Nat.zero_add] at hobi
    obtain ⟨hg, hwp⟩ := hobi a' w' hSw hbase hdep' K hK
    have hwant : Region.wanted o (yielded ops a'.tmps) = true := by
      rcases hg with hg | ⟨j, d, hg, hj, hv⟩
      · simp [Region.wanted, hg]
      · obtain ⟨oj, hoj, hdj⟩ := hdst' j d hj
        have h1 : a'.tmps[d]? = some (.bool true) := by
          cases h : a'.tmps[d]? with
          | none => simp [h] at hv; cases hv
          | some u => simp [h] at hv; rw [hv]
        simp [Region.wanted, hg, yielded, hoj, hdj, h1]
    unfold wpOp
    simp only [hi, hwant, if_true]
    exact .inl hwp
  · have hw := hlast a' w' h1 h2 h3 h4 (fun j d h hj hdep => by
      obtain ⟨o, ho', hd'⟩ := hdst' j d h
      exact h5 j o d ho' (by omega) hd' hdep) K fun v w2 hq => hK _ _ hq
    unfold wpOp
    have hwant : Region.wanted last (yielded ops a'.tmps) = true := by simp [Region.wanted, hgl]
    simp only [hl, hwant, if_true]
    exact .inl hw
  · exfalso
    have hlt : i < ops.size := (Array.getElem?_eq_some_iff.1 hi).1
    simp [hlt] at hl
  · exfalso
    have hlt : k < ops.size := (Array.getElem?_eq_some_iff.1 hk).1
    simp [hlt] at hlk
  · have hlt : ops.size - 1 < ops.size := by omega
    simp [hlt]
  · rw [hstart _ (Nat.le_refl _)]; exact Nat.le_refl _
end
end Go.Proofs.Ytjnnoabaepmcnaa
/-
  A region that draws its order, one of whose operations (pen) waits for all others but the last: behind it the world need not be what it was.
-/
namespace Go.Proofs.Ytjnnoabaepmcnaa
open Go.RowKit

section
variable {P : Program} {ops : Array Oper} {Q : Exit → Act → World → Prop}

/-- Some operation that may come up behind i reads what j has left, and j does not wait for i. -/
def needP (l : List Oper) (i j : Nat) : Bool := needB l i j && !anc l l.length j i
def needPL (l : List Oper) (i : Nat) : List Nat := (needL l i).filter fun j => !anc l l.length j i
theorem needPL_of {l : List Oper} {i j : Nat} (h : needP l i j = true) : j ∈ needPL l i := by
  unfold needP at h
  rw [Bool.and_eq_true] at h
  exact List.mem_filter.2 ⟨needL_of h.1, h.2⟩
theorem needP_of {l : List Oper} {i j : Nat} (h : needB l i j = true) (ha : anc l l.length j i = false) : needP l i j = true := by
  unfold needP; rw [h, ha]; rfl

/-- The frame and the world while the region runs: what is listed and still read holds in its slot. -/
structure MidP (ops : Array Oper) (pen : Nat) (a0 : Act) (S : World → Prop) (F : Nat → Value → World → Prop) (listed : Array Bool) (a : Act) (w : World) : Prop where
  size : listed.size = ops.size
  tmps : a.tmps.size = a0.tmps.size
  defers : a.defers = a0.defers
  out : ∀ t, outside ops.pop t = true → a.tmps.getD t undef = a0.tmps.getD t undef
  world : listed.getD pen false = false → S w
  held : ∀ (i : Nat) (o : Oper) (d : Tmp), ops[i]? = some o → o.dst = some d → listed.getD i false = true → (∃ k ok, ops[k]? = some ok ∧ listed.getD k true = false ∧ datT ok i = true) → F i (a.tmps.getD d undef) w

def EachP (P : Program) (ops : Array Oper) (pen : Nat) (Q : Exit → Act → World → Prop) (a0 : Act) (S : World → Prop) (F : Nat → Value → World → Prop) (i : Nat) (o : Oper) : Prop :=
  ∀ (a : Act) (w : World), a.tmps.size = a0.tmps.size → a.defers = a0.defers → (∀ t, outside ops.pop t = true → a.tmps.getD t undef = a0.tmps.getD t undef) → S w →
    (∀ (j : Nat) (oe : Oper) (d : Tmp), datT o j = true → ops[j]? = some oe → oe.dst = some d → F j (a.tmps.getD d undef) w) →
    ∀ K : Act → World → Prop, (∀ v w', (i ≠ pen → S w') → (∀ j, needP ops.toList i j = true → ∀ u, F j u w → F j u w') → F i v w' → K (a.put o.dst v) w') → wpOp P ops Q i K a w

theorem wpAny_pen {pen : Nat} {a0 : Act} {S : World → Prop} {F : Nat → Value → World → Prop} {last : Oper} (hpen : ∀ i, i < ops.size - 1 → i ≠ pen → anc ops.toList ops.toList.length pen i = true) (hpl : pen < ops.size) (ho : orderly .any a0.tmps.size 0 [] ops.toList = true) (ht : tails .any ops.toList = true) (hl : ops[ops.size - 1]? = some last)
    (hop : ∀ (i : Nat) (o : Oper), ops[i]? = some o → i < ops.size - 1 → EachP P ops pen Q a0 S F i o)
    (hlast : ∀ (a : Act) (w : World), a.tmps.size = a0.tmps.size → a.defers = a0.defers → (∀ t, outside ops.pop t = true → a.tmps.getD t undef = a0.tmps.getD t undef) →
      (∀ (i : Nat) (o : Oper) (d : Tmp), ops[i]? = some o → i < ops.size - 1 → o.dst = some d → datT last i = true → F i (a.tmps.getD d undef) w) → ∀ K : Act → World → Prop, (∀ a' w', Q .normal a' w' → K a' w') → wpOp P ops Q (ops.size - 1) K a w) :
    ∀ (fuel : Nat) (listed : Array Bool) (a : Act) (w : World), MidP ops pen a0 S F listed a w → Closed .any ops listed → listed.getD (ops.size - 1) true = false → unl listed ops.size ≤ fuel → wpAny P .any ops Q fuel listed a w := by
  have hlt0 : ops.size - 1 < ops.size := (Array.getElem?_eq_some_iff.1 hl).1
  have hon : ∀ (i : Nat) (o : Oper), ops[i]? = some o → ∀ e ∈ o.after, Region.binds .any e = true → e.on < i := fun i o hi e he hbd => by
    have := orderly_on ops.toList 0 [] ho i o (by simpa using hi) e he hbd; omega
  have hdst : ∀ (i : Nat) (o : Oper) (d : Tmp), ops[i]? = some o → o.dst = some d → d < a0.tmps.size := fun i o d hi hd => (orderly_dst ops.toList 0 [] ho i o d (by simpa using hi) hd).1
  have hone : ∀ (i : Nat) (o : Oper) (d : Tmp), ops[i]? = some o → o.dst = some d → ∀ (j : Nat) (o' : Oper), ops[j]? = some o' → i ≠ j → o'.dst ≠ some d := fun i o d hi hd j o' hj hij e => by
    rcases Nat.lt_or_gt_of_ne hij with h | h
    · exact (orderly_dst ops.toList 0 [] ho i o d (by simpa using hi) hd).2.2 j o' (by simpa using hj) h e
    · exact (orderly_dst ops.toList 0 [] ho j o' d (by simpa using hj) e).2.2 i o (by simpa using hi) h hd
  intro fuel
  induction fuel with
  | zero =>
    intro listed a w hm hcl hul hf
    exfalso
    have := unl_set listed _ hul ops.size
    rw [if_pos hlt0] at this
    omega
  | succ fuel ih =>
    intro listed a w hm hcl hul hf
    refine ⟨fun hr => ?_, fun i hi => ?_⟩
    · exfalso
      have h1 := ready_none hm.size hon hr _ hlt0
      have hlt : ops.size - 1 < listed.size := by have := hm.size; omega
      simp [hlt] at hul h1
      rw [h1] at hul; cases hul
    obtain ⟨hul2, o, ho', hall⟩ := mem_ready.1 hi
    have hlt : i < ops.size := (Array.getElem?_eq_some_iff.1 ho').1
    by_cases e : i = ops.size - 1
    · subst e
      rw [hl] at ho'
      obtain rfl := Option.some.inj ho'
      have hab := fun j hj => all_before ht hcl hl hall _ j (Nat.le_refl _) hj
      refine hlast a w hm.tmps hm.defers hm.out (fun j oj d hj hjl hd hdep => hm.held j oj d hj hd (hab j hjl) ⟨_, _, hl, hul2, hdep⟩) _ fun a' w' hq => ?_
      have hrd : Region.ready .any ops (listed.setIfInBounds (ops.size - 1) true) = [] := by
        rw [List.eq_nil_iff_forall_not_mem]
        intro j hj
        obtain ⟨hl', o', ho'', -⟩ := mem_ready.1 hj
        have hj' : j < ops.size := (Array.getElem?_eq_some_iff.1 ho'').1
        have hls : ops.size - 1 < listed.size := by have := hm.size; omega
        by_cases ej : ops.size - 1 = j
        · subst ej; simp [hls] at hl'
        · rw [getD_set_ne true ej] at hl'
          have h1 := hab j (by omega)
          have hjs : j < listed.size := by have := hm.size; omega
          simp [hjs] at hl' h1
          rw [h1] at hl'; cases hl'
      cases fuel with
      | zero => exact ⟨hrd, hq⟩
      | succ fuel => exact ⟨fun _ => hq, fun j hj => by rw [hrd] at hj; cases hj⟩
    · have hpu : listed.getD pen false = false := by
        by_cases ep : i = pen
        · subst ep
          have hps : i < listed.size := by have := hm.size; omega
          simp [hps] at hul2 ⊢; exact hul2
        · cases h : listed.getD pen false with
          | false => rfl
          | true =>
            exfalso
            have h1 := anc_listed hcl _ pen i ops[pen] (Array.getElem?_eq_getElem hpl) (fun e he hbe => hcl pen ops[pen] (Array.getElem?_eq_getElem hpl) h e he hbe) (hpen i (by omega) ep)
            have his : i < listed.size := by have := hm.size; omega
            simp [his] at hul2 h1
            rw [h1] at hul2; cases hul2
      refine hop i o ho' (by omega) a w hm.tmps hm.defers hm.out (hm.world hpu) (fun j oe d hdj hoe hd => by
        obtain ⟨e, he, rfl, hb⟩ := depT_iff.1 (datT_dep hdj)
        exact hm.held e.on oe d hoe hd (hall e he hb) ⟨i, o, ho', hul2, hdj⟩) _ fun v w' hS hst hF => ?_
      have hls : listed.size = ops.size := hm.size
      refine ih _ _ _ ⟨by simp [hm.size], ?_, ?_, fun t ht => ?_, fun hpn => hS (fun ep => by subst ep; simp [show i < listed.size by omega] at hpn), fun j oj d hj hd hlj hcons => ?_⟩ (fun k ok hk hlk e' he' hb' => ?_) ?_ ?_
      · cases o.dst <;> simp [Act.put, hm.tmps]
      · cases o.dst <;> simp [Act.put, hm.defers]
      · rw [← hm.out t ht]
        cases hd : o.dst with
        | none => rfl
        | some d =>
          have hne : d ≠ t := by
            intro e; subst e
            unfold outside at ht
            rw [Array.all_eq_true_iff_forall_mem] at ht
            have := ht o (Array.mem_of_getElem? (i := i) (by rw [Array.getElem?_pop, if_pos (by omega)]; exact ho'))
            rw [hd] at this; simp at this
          simp [Act.put, Array.getElem?_setIfInBounds_ne hne]
      · by_cases e : i = j
        · subst e
          rw [ho'] at hj
          obtain rfl := Option.some.inj hj
          have hdl : d < a.tmps.size := by rw [hm.tmps]; exact hdst i o d ho' hd
          have : (a.put o.dst v).tmps.getD d undef = v := by rw [hd]; simp [Act.put, hdl]
          rw [this]; exact hF
        · have h1 : listed.getD j false = true := by rw [getD_set_ne false e] at hlj; exact hlj
          obtain ⟨k, ok, hk, huk, hdk⟩ := hcons
          have hki : i ≠ k := by
            intro e'; subst e'
            simp [show i < listed.size by omega] at huk
          have huk' : listed.getD k true = false := by rw [getD_set_ne true hki] at huk; exact huk
          have hanc : anc ops.toList ops.toList.length i k = false := by
            cases h : anc ops.toList ops.toList.length i k with
            | false => rfl
            | true =>
              have := anc_listed hcl _ i k o ho' hall h
              have hks : k < listed.size := by rw [hls]; exact (Array.getElem?_eq_some_iff.1 hk).1
              simp [hks] at this huk'
              rw [this] at huk'; cases huk'
          have h2 := hm.held j oj d hj hd h1 ⟨k, ok, hk, huk', hdk⟩
          have h3 : (a.put o.dst v).tmps.getD d undef = a.tmps.getD d undef := by
            cases hd' : o.dst with
            | none => rfl
            | some d' =>
              have hne : d' ≠ d := fun e' => hone j oj d hj hd i o ho' (Ne.symm e) (by rw [hd', e'])
              simp [Act.put, Array.getElem?_setIfInBounds_ne hne]
          have hji : anc ops.toList ops.toList.length j i = false := by
            cases h : anc ops.toList ops.toList.length j i with
            | false => rfl
            | true =>
              exfalso
              have := anc_listed hcl _ j i oj hj (fun e he hbe => hcl j oj hj h1 e he hbe) h
              have his : i < listed.size := by omega
              simp [his] at hul2 this
              rw [this] at hul2; cases hul2
          rw [h3]; exact hst j (needP_of (needB_of (Ne.symm e) (by simpa using hk) (Ne.symm hki) hanc hdk) hji) _ h2
      · by_cases ek : i = k
        · subst ek
          rw [ho'] at hk
          obtain rfl := Option.some.inj hk
          have h1 := hall e' he' hb'
          have h2 : i ≠ e'.on := by have := hon i o ho' e' he' hb'; omega
          rw [getD_set_ne false h2]; exact h1
        · rw [getD_set_ne false ek] at hlk
          have h1 := hcl k ok hk hlk e' he' hb'
          by_cases e2 : i = e'.on
          · rw [← e2]; simp [show i < listed.size by omega]
          · rw [getD_set_ne false e2]; exact h1
      · rw [getD_set_ne true e]; exact hul
      · have := unl_set listed i hul2 ops.size
        rw [if_pos hlt] at this; omega

/-- What is asked of one operation: it keeps what may still be read; operation pen need not keep the world. -/
def Obp (P : Program) (Q : Exit → Act → World → Prop) (l : List Oper) (pen : Nat) (base : List (Tmp × Value)) (dsts : List (Option Tmp)) (S : World → Prop) (fs : List FactP) (i : Nat) (o : Oper) : Prop :=
  ∀ (a : Act) (w : World), S w → (∀ t v, base.lookup t = some v → a.tmps.getD t undef = v) →
    (∀ j d, dsts[j]? = some (some d) → datT o j = true → factP fs j (a.tmps.getD d undef) w) →
    ∀ K : Act → World → Prop, (∀ v w', (i ≠ pen → S w') → (∀ j, needP l i j = true → ∀ u, factP fs j u w → factP fs j u w') → factP fs i v w' → K (a.put o.dst v) w') →
      (o.guard = none ∨ ∃ j d, o.guard = some (j, true) ∧ dsts[j]? = some (some d) ∧ a.tmps.getD d undef = .bool true) ∧ o.wp P a w K Q
theorem obp_of {l : List Oper} {pen : Nat} {base : List (Tmp × Value)} {dsts : List (Option Tmp)} {S : World → Prop} {fs : List FactP} {i : Nat} {o : Oper} (h : Obn P Q l base dsts S fs i o) : Obp P Q l pen base dsts S fs i o :=
  fun a w h1 h2 h3 K hK => h a w h1 h2 h3 K fun v w' g1 g2 g3 => hK v w' (fun _ => g1) (fun j hj => g2 j (by unfold needP at hj; rw [Bool.and_eq_true] at hj; exact hj.1)) g3

theorem wp_region_pen {id : Nat} {a : Act} {w : World} {S : World → Prop} (pen : Nat) (fs : List FactP) (base : List (Tmp × Value)) (dsts : List (Option Tmp)) (last : Oper) (k : Nat)
    (hpb : ((List.range (ops.size - 1)).all fun i => i == pen || anc ops.toList ops.toList.length pen i) = true) (hpl : pen < ops.size) (hm : P.follows .mixedOrders = true) (hk : ops.size = k + 1) (hlk : ops[k]? = some last) (ho : orderly .any a.tmps.size 0 [] ops.toList = true) (ht : tails .any ops.toList = true) (hd : ops.toList.map (·.dst) = dsts)
    (hbo : base.all (fun p => outside ops.pop p.1) = true) (hb : ∀ t v, base.lookup t = some v → a.tmps.getD t undef = v)
    (hS : S w.drew) (hob : AllOps (Obp P Q ops.toList pen base dsts S fs) 0 ops.toList.dropLast) (hgl : last.guard = none)
    (hlast : ∀ (a' : Act) (w' : World), a'.tmps.size = a.tmps.size → a'.defers = a.defers → (∀ t, outside ops.pop t = true → a'.tmps.getD t undef = a.tmps.getD t undef) →
      (∀ j d, dsts[j]? = some (some d) → j < k → datT last j = true → factP fs j (a'.tmps.getD d undef) w') → ∀ K : Act → World → Prop, (∀ v w2, Q .normal (a'.put last.dst v) w2 → K (a'.put last.dst v) w2) → last.wp P a' w' K Q) :
    (Code.region id ops true).wp P Q a w := by
  have hl : ops[ops.size - 1]? = some last := by rw [hk]; exact hlk
  have hdst' : ∀ (j : Nat) (d : Tmp), dsts[j]? = some (some d) → ∃ o, ops[j]? = some o ∧ o.dst = some d := fun j d h => by
    rw [← hd, List.getElem?_map] at h
    cases hj : ops.toList[j]? with
    | none => rw [hj] at h; simp at h
    | some o =>
      rw [hj] at h
      exact ⟨o, by simpa using hj, by simpa using h⟩
  have hmem : ∀ (t : Tmp) (v : Value) (l : List (Tmp × Value)), l.lookup t = some v → ∃ p ∈ l, p.1 = t := fun t v l => by
    induction l with
    | nil => intro h; simp at h
    | cons x r ih =>
      intro h
      rw [List.lookup_cons] at h
      by_cases e : t == x.1
      · exact ⟨x, List.mem_cons_self, (by simpa using e : t = x.1).symm⟩
      · have e' : (t == x.1) = false := by simpa using e
        rw [e'] at h
        obtain ⟨p, hp, hpt⟩ := ih h
        exact ⟨p, List.mem_cons_of_mem _ hp, hpt⟩
  have hstart : ∀ k, k ≤ ops.size → unl (Array.replicate ops.size false) k = k := by
    intro k
    induction k with
    | zero => intro _; rfl
    | succ k ih =>
      intro hk
      rw [unl, ih (by omega)]
      have : (Array.replicate ops.size false).getD k true = false := by simp [show k < ops.size by omega]
      rw [this]; rfl
  refine wp_region_any hm (wpAny_pen (pen := pen) (F := fun i u w => factP fs i u w) (fun i hi hne => by
    rw [List.all_eq_true] at hpb
    have := hpb i (List.mem_range.2 hi)
    rw [Bool.or_eq_true] at this
    exact this.resolve_left (by simpa using hne)) hpl ho ht hl (fun i o hi hil a' w' hts hds hout hSw hdep K hK => ?_) (fun a' w' h1 h2 h3 h5 K hK => ?_) _ _ _ _ ⟨by simp, rfl, rfl, fun _ _ => rfl, fun _ => hS, fun i o d hi _ hl _ => ?_⟩ (fun k o hk hlk => ?_) ?_ ?_)
  · have hbase : ∀ t v, base.lookup t = some v → a'.tmps.getD t undef = v := fun t v h => by
      obtain ⟨p, hp, rfl⟩ := hmem t v base h
      rw [List.all_eq_true] at hbo
      rw [hout p.1 (hbo p hp)]; exact hb p.1 v h
    have hdep' : ∀ j d, dsts[j]? = some (some d) → datT o j = true → factP fs j (a'.tmps.getD d undef) w' := fun j d h he => by
      obtain ⟨oe, hoe, hde⟩ := hdst' j d h
      exact hdep j oe d he hoe hde
    have hip : ops.toList.dropLast[i]? = some o := by
      have : ops.toList[i]? = some o := by simpa using hi
      rw [List.getElem?_dropLast, if_pos (by simpa using hil)]; exact this
    have hobi := allOps_at _ 0 hob i o hip
    rw [Nat.zero_add] at hobi
    obtain ⟨hg, hwp⟩ := hobi a' w' hSw hbase hdep' K hK
    have hwant : Region.wanted o (yielded ops a'.tmps) = true := by
      rcases hg with hg | ⟨j, d, hg, hj, hv⟩
      · simp [Region.wanted, hg]
      · obtain ⟨oj, hoj, hdj⟩ := hdst' j d hj
        have h1 : a'.tmps[d]? = some (.bool true) := by
          cases h : a'.tmps[d]? with
          | none => simp [h] at hv; cases hv
          | some u => simp [h] at hv; rw [hv]
        simp [Region.wanted, hg, yielded, hoj, hdj, h1]
    unfold wpOp
    simp only [hi, hwant, if_true]
    exact .inl hwp
  · have hw := hlast a' w' h1 h2 h3 (fun j d h hj hdep => by
      obtain ⟨o, ho', hd'⟩ := hdst' j d h
      exact h5 j o d ho' (by omega) hd' hdep) K fun v w2 hq => hK _ _ hq
    unfold wpOp
    have hwant : Region.wanted last (yielded ops a'.tmps) = true := by simp [Region.wanted, hgl]
    simp only [hl, hwant, if_true]
    exact .inl hw
  · exfalso
    have hlt : i < ops.size := (Array.getElem?_eq_some_iff.1 hi).1
    simp [hlt] at hl
  · exfalso
    have hlt : k < ops.size := (Array.getElem?_eq_some_iff.1 hk).1
    simp [hlt] at hlk
  · have hlt : ops.size - 1 < ops.size := by omega
    simp [hlt]
  · rw [hstart _ (Nat.le_refl _)]; exact Nat.le_refl _
end
end Go.Proofs.Ytjnnoabaepmcnaa
/-
  Row sums and column sums as lists.
-/
namespace Go.Proofs.Ytjnnoabaepmcnaa
open Go.RowKit

/-- The number of black cells in a row, in a column. -/
def rs (C : Nat) (f : Nat → Nat → Int) (y : Nat) : Nat := cnt (fun x => f y x == 1) C
def cs (R : Nat) (f : Nat → Nat → Int) (x : Nat) : Nat := cnt (fun y => f y x == 1) R
/-- The row sums. -/
def rowsL (R C : Nat) (f : Nat → Nat → Int) : List Int := rowF R fun y => (rs C f y : Nat)
theorem rs_cell {R C : Nat} {f : Nat → Nat → Int} (h : Img R C f) {y x : Nat} (hy : y < R) (hx : x < C) : ((cnt (fun x => f y x == 1) (x + 1) : Nat) : Int) = (cnt (fun x => f y x == 1) x : Nat) + f y x := by
  rcases h.cell y x hy hx with e | e
  · rw [cnt_no (by simp [e]), e]; simp
  · rw [cnt_yes (by simp [e]), e]; simp
end Go.Proofs.Ytjnnoabaepmcnaa
/-
  Numbers of black cells by rows, by columns and by lines.
-/
namespace Go.Proofs.Ytjnnoabaepmcnaa
open Go.RowKit

theorem cnt_add (p : Nat → Bool) (b : Nat) : ∀ C, cnt p (b + C) = cnt p b + cnt (fun x => p (b + x)) C
  | 0 => rfl
  | C + 1 => by
    have := cnt_add p b C
    rw [← Nat.add_assoc, cnt, cnt, this]; omega
theorem cnt_congr {p q : Nat → Bool} : ∀ {N : Nat}, (∀ i, i < N → p i = q i) → cnt p N = cnt q N
  | 0, _ => rfl
  | N + 1, h => by rw [cnt, cnt, cnt_congr fun i hi => h i (by omega), h N (by omega)]
theorem cnt_none {p : Nat → Bool} {N : Nat} (h : ∀ i, i < N → p i = false) : cnt p N = 0 := cnt_skip (k := 0) (Nat.zero_le _) fun i _ hi => h i hi
theorem cnt_only {p : Nat → Bool} {N j : Nat} (hj : j < N) (h : ∀ i, i < N → i ≠ j → p i = false) : cnt p N = if p j = true then 1 else 0 := by
  have h1 : cnt p N = cnt p (j + 1) := cnt_skip (by omega) fun i h1 h2 => h i h2 (by omega)
  have h2 : cnt p j = 0 := cnt_none fun i hi => h i (by omega) (by omega)
  rw [h1, cnt, h2]; omega
theorem lnum_row (C y x : Nat) : lnum 1 0 C y x = y := by simp [lnum, least]
theorem lnum_col (C y x : Nat) (hx : x < C) : lnum 0 1 C y x = (C : Int) - 1 - x := by unfold lnum least; omega
theorem cnt_rows (C : Nat) (f : Nat → Nat → Int) (n : Int) : ∀ Y : Nat, cnt (onL C f (1, 0) n) (C * Y) = if 0 ≤ n ∧ n < Y then rs C f n.toNat else 0
  | 0 => by rw [if_neg (by omega)]; rfl
  | Y + 1 => by
    have h1 : cnt (fun x => onL C f (1, 0) n (C * Y + x)) C = if n = Y then rs C f Y else 0 := by
      by_cases e : n = Y
      · rw [if_pos e]
        refine cnt_congr fun x hx => ?_
        rw [onL_at hx]
        simp only [lnum_row, e]; simp
      · rw [if_neg e]
        refine cnt_none fun x hx => ?_
        rw [onL_at hx]
        simp only [lnum_row]
        have : ((Y : Int) == n) = false := by simp; omega
        rw [this, Bool.and_false]
    rw [Nat.mul_succ, cnt_add, cnt_rows C f n Y, h1]
    by_cases e : n = Y
    · rw [if_pos e, if_neg (by omega), if_pos (by omega), Nat.zero_add]
      congr 1; omega
    · rw [if_neg e, Nat.add_zero]
      by_cases h : 0 ≤ n ∧ n < Y
      · rw [if_pos h, if_pos (by omega)]
      · rw [if_neg h, if_neg (by omega)]
theorem cnt_cols (C : Nat) (f : Nat → Nat → Int) (n : Int) : ∀ Y : Nat, cnt (onL C f (0, 1) n) (C * Y) = if 0 ≤ n ∧ n < C then cs Y f (C - 1 - n.toNat) else 0
  | 0 => by split <;> rfl
  | Y + 1 => by
    rw [Nat.mul_succ, cnt_add, cnt_cols C f n Y]
    by_cases h : 0 ≤ n ∧ n < C
    · rw [if_pos h, if_pos h]
      have hj : C - 1 - n.toNat < C := by omega
      have h1 : cnt (fun x => onL C f (0, 1) n (C * Y + x)) C = if (f Y (C - 1 - n.toNat) == 1) = true then 1 else 0 := by
        rw [cnt_only hj fun x hx hne => ?_]
        · have e : onL C f (0, 1) n (C * Y + (C - 1 - n.toNat)) = (f Y (C - 1 - n.toNat) == 1) := by
            rw [onL_at hj, lnum_col C Y _ hj]
            have : ((C : Int) - 1 - ((C - 1 - n.toNat : Nat) : Int) == n) = true := by simp; omega
            rw [this, Bool.and_true]
          simp only [e]
        · rw [onL_at hx, lnum_col C Y x hx]
          have : ((C : Int) - 1 - (x : Int) == n) = false := by simp; omega
          rw [this, Bool.and_false]
      rw [h1]; rfl
    · rw [if_neg h, if_neg h, Nat.zero_add]
      refine cnt_none fun x hx => ?_
      rw [onL_at hx, lnum_col C Y x hx]
      have : ((C : Int) - 1 - (x : Int) == n) = false := by simp; omega
      rw [this, Bool.and_false]
theorem lineRow_rows (R C : Nat) (f : Nat → Nat → Int) : lineRow R C f 1 0 R = rowsL R C f := rowF_congr fun i hi => by
  rw [Nat.mul_comm R C, cnt_rows, if_pos (by omega)]; rfl
theorem countL_rows (R C : Nat) : countL R C 1 0 = R := by unfold countL lnum least; omega
end Go.Proofs.Ytjnnoabaepmcnaa
/-
  Switches, pure: the four cells, an image after a switch, lists of switches in order, paths.
-/
namespace Go.Proofs.Ytjnnoabaepmcnaa

/-- A switch: two rows and two columns. -/
structure Sw where
  y1 : Int
  y2 : Int
  x1 : Int
  x2 : Int
instance : DecidableEq Sw := fun a b =>
  if h : a.y1 = b.y1 ∧ a.y2 = b.y2 ∧ a.x1 = b.x1 ∧ a.x2 = b.x2 then isTrue (by obtain ⟨a1, a2, a3, a4⟩ := a; obtain ⟨b1, b2, b3, b4⟩ := b; simp only at h; obtain ⟨rfl, rfl, rfl, rfl⟩ := h; rfl)
  else isFalse fun e => h (by rw [e]; exact ⟨rfl, rfl, rfl, rfl⟩)
def zeroSw : Sw := ⟨0, 0, 0, 0⟩
/-- The cell of a list. -/
def cellM (m : List (List Int)) (y x : Nat) : Int := (m.getD y []).getD x 0
theorem cell_mk (R C : Nat) (f : Nat → Nat → Int) {y x : Nat} (hy : y < R) (hx : x < C) : cellM (mkM R C f) y x = f y x := by
  simp [cellM, mkM, rowF, hy, hx]
theorem mk_cell (R C : Nat) (f : Nat → Nat → Int) : mkM R C (cellM (mkM R C f)) = mkM R C f := mkM_congr fun _ _ hy hx => cell_mk R C f hy hx
/-- The four cells of a switch, by number. -/
def four (R C : Nat) (f : Nat → Nat → Int) (a b c d : Nat) : Bool :=
  decide (a < b) && decide (c < d) && decide (b < R) && decide (d < C) && decide (f b d = f a c) && decide (f a d = 1 - f a c) && decide (f b c = 1 - f a c)
theorem four_iff {R C : Nat} {f : Nat → Nat → Int} {a b c d : Nat} : four R C f a b c d = true ↔ a < b ∧ c < d ∧ b < R ∧ d < C ∧ f b d = f a c ∧ f a d = 1 - f a c ∧ f b c = 1 - f a c := by
  simp [four, Bool.and_eq_true, and_assoc]
/-- A switch of an image. -/
def swF (R C : Nat) (f : Nat → Nat → Int) (s : Sw) : Bool :=
  decide (0 ≤ s.y1) && decide (0 ≤ s.x1) && decide (s.y1 < s.y2) && decide (s.x1 < s.x2) && four R C f s.y1.toNat s.y2.toNat s.x1.toNat s.x2.toNat
theorem swF_iff {R C : Nat} {f : Nat → Nat → Int} {s : Sw} : swF R C f s = true ↔ ∃ a b c d : Nat, s = ⟨a, b, c, d⟩ ∧ four R C f a b c d = true := by
  constructor
  · intro h
    simp only [swF, Bool.and_eq_true, decide_eq_true_eq] at h
    obtain ⟨⟨⟨⟨h1, h2⟩, h3⟩, h4⟩, h5⟩ := h
    refine ⟨_, _, _, _, ?_, h5⟩
    obtain ⟨y1, y2, x1, x2⟩ := s
    simp only at h1 h2 h3 h4 ⊢
    rw [Int.toNat_of_nonneg h1, Int.toNat_of_nonneg (by omega), Int.toNat_of_nonneg h2, Int.toNat_of_nonneg (by omega)]
  · rintro ⟨a, b, c, d, rfl, h⟩
    have := four_iff.1 h
    simp only [swF, Bool.and_eq_true, decide_eq_true_eq]
    exact ⟨⟨⟨⟨by omega, by omega⟩, by omega⟩, by omega⟩, by simpa using h⟩
theorem four_congr {R C : Nat} {f g : Nat → Nat → Int} (h : ∀ y x, y < R → x < C → f y x = g y x) (a b c d : Nat) : four R C f a b c d = four R C g a b c d := by
  rw [Bool.eq_iff_iff, four_iff, four_iff]
  constructor
  · rintro ⟨h1, h2, h3, h4, h5⟩
    rw [h b d h3 h4, h a c (by omega) (by omega), h a d (by omega) h4, h b c h3 (by omega)] at h5
    exact ⟨h1, h2, h3, h4, h5⟩
  · rintro ⟨h1, h2, h3, h4, h5⟩
    rw [← h b d h3 h4, ← h a c (by omega) (by omega), ← h a d (by omega) h4, ← h b c h3 (by omega)] at h5
    exact ⟨h1, h2, h3, h4, h5⟩
theorem swF_congr {R C : Nat} {f g : Nat → Nat → Int} (h : ∀ y x, y < R → x < C → f y x = g y x) (s : Sw) : swF R C f s = swF R C g s := by
  unfold swF; rw [four_congr h]
/-- The cells after a switch. -/
def flipN (f : Nat → Nat → Int) (a b c d : Nat) (y x : Nat) : Int := if (y = a ∨ y = b) ∧ (x = c ∨ x = d) then 1 - f y x else f y x
def flipF (f : Nat → Nat → Int) (s : Sw) : Nat → Nat → Int := flipN f s.y1.toNat s.y2.toNat s.x1.toNat s.x2.toNat
theorem flipN_img {R C : Nat} {f : Nat → Nat → Int} (h : Img R C f) (a b c d : Nat) : Img R C (flipN f a b c d) :=
  ⟨h.r1, h.r2, h.c1, h.c2, fun y x hy hx => by unfold flipN; split <;> rcases h.cell y x hy hx with e | e <;> simp [e]⟩
theorem flipF_img {R C : Nat} {f : Nat → Nat → Int} (h : Img R C f) (s : Sw) : Img R C (flipF f s) := flipN_img h _ _ _ _
theorem flipN_flip (f : Nat → Nat → Int) (a b c d : Nat) : flipN (flipN f a b c d) a b c d = f := by
  funext y x
  unfold flipN
  by_cases h : (y = a ∨ y = b) ∧ (x = c ∨ x = d)
  · rw [if_pos h, if_pos h]; omega
  · rw [if_neg h, if_neg h]
theorem flipF_flip (f : Nat → Nat → Int) (s : Sw) : flipF (flipF f s) s = f := flipN_flip f _ _ _ _
theorem flipN_congr {R C : Nat} {f g : Nat → Nat → Int} (h : ∀ y x, y < R → x < C → f y x = g y x) (a b c d : Nat) : ∀ y x, y < R → x < C → flipN f a b c d y x = flipN g a b c d y x := by
  intro y x hy hx; unfold flipN; rw [h y x hy hx]
theorem four_flip {R C : Nat} {f : Nat → Nat → Int} {a b c d : Nat} (h : four R C f a b c d = true) : four R C (flipN f a b c d) a b c d = true := by
  have := four_iff.1 h
  refine four_iff.2 ⟨this.1, this.2.1, this.2.2.1, this.2.2.2.1, ?_⟩
  unfold flipN
  simp
  omega
theorem swF_flip {R C : Nat} {f : Nat → Nat → Int} {s : Sw} (h : swF R C f s = true) : swF R C (flipF f s) s = true := by
  obtain ⟨a, b, c, d, rfl, h'⟩ := swF_iff.1 h
  exact swF_iff.2 ⟨a, b, c, d, rfl, by simpa [flipF] using four_flip h'⟩

/-- The same of lists. -/
def swB (m : List (List Int)) (s : Sw) : Bool := swF m.length (widthM m) (cellM m) s
def flipM (m : List (List Int)) (s : Sw) : List (List Int) := mkM m.length (widthM m) (flipF (cellM m) s)
theorem swB_mk {R C : Nat} {f : Nat → Nat → Int} (h : Img R C f) (s : Sw) : swB (mkM R C f) s = swF R C f s := by
  have := h.r1
  unfold swB
  rw [mkM_len, width_mkM (by omega)]
  exact swF_congr (fun y x hy hx => cell_mk R C f hy hx) s
theorem flipM_mk {R C : Nat} {f : Nat → Nat → Int} (h : Img R C f) (s : Sw) : flipM (mkM R C f) s = mkM R C (flipF f s) := by
  have := h.r1
  unfold flipM
  rw [mkM_len, width_mkM (by omega)]
  exact mkM_congr (flipN_congr (fun y x hy hx => cell_mk R C f hy hx) _ _ _ _)

/-- A node: a list that is a valid image of this size. -/
def Node (R C : Nat) (m : List (List Int)) : Prop := ∃ f, m = mkM R C f ∧ Img R C f
theorem node_flip {R C : Nat} {m : List (List Int)} (h : Node R C m) (s : Sw) : Node R C (flipM m s) := by
  obtain ⟨f, rfl, h⟩ := h
  exact ⟨_, flipM_mk h s, flipF_img h s⟩
theorem flip_back {R C : Nat} {m : List (List Int)} (h : Node R C m) (s : Sw) : flipM (flipM m s) s = m := by
  obtain ⟨f, rfl, h⟩ := h
  rw [flipM_mk h, flipM_mk (flipF_img h s), flipF_flip]
theorem swB_back {R C : Nat} {m : List (List Int)} (h : Node R C m) {s : Sw} (hs : swB m s = true) : swB (flipM m s) s = true := by
  obtain ⟨f, rfl, h⟩ := h
  rw [swB_mk h] at hs
  rw [flipM_mk h, swB_mk (flipF_img h s)]
  exact swF_flip hs

/-- Switches one after the other. -/
def goM : List (List Int) → List Sw → Option (List (List Int))
  | m, [] => some m
  | m, s :: p => if swB m s then goM (flipM m s) p else none
theorem goM_append (m : List (List Int)) (p q : List Sw) : goM m (p ++ q) = (goM m p).bind fun t => goM t q := by
  induction p generalizing m with
  | nil => rfl
  | cons s p ih =>
    simp only [List.cons_append, goM]
    split
    · exact ih _
    · rfl
theorem goM_snoc {m t : List (List Int)} {p : List Sw} {s : Sw} (h : goM m p = some t) (hs : swB t s = true) : goM m (p ++ [s]) = some (flipM t s) := by
  rw [goM_append, h]
  simp [goM, hs]
theorem goM_unsnoc {m u : List (List Int)} {p : List Sw} {s : Sw} (h : goM m (p ++ [s]) = some u) : ∃ t, goM m p = some t ∧ swB t s = true ∧ u = flipM t s := by
  rw [goM_append] at h
  cases ht : goM m p with
  | none => rw [ht] at h; cases h
  | some t =>
    rw [ht] at h
    simp only [Option.bind_some, goM] at h
    split at h
    · rename_i hs; exact ⟨t, rfl, hs, (Option.some.inj h).symm⟩
    · cases h
theorem goM_node {R C : Nat} {m t : List (List Int)} {p : List Sw} (hm : Node R C m) (h : goM m p = some t) : Node R C t := by
  induction p generalizing m with
  | nil => cases h; exact hm
  | cons s p ih =>
    simp only [goM] at h
    split at h
    · exact ih (node_flip hm s) h
    · cases h
theorem goM_rev {R C : Nat} {m t : List (List Int)} {p : List Sw} (hm : Node R C m) (h : goM m p = some t) : goM t p.reverse = some m := by
  induction p generalizing m with
  | nil => cases h; rfl
  | cons s p ih =>
    simp only [goM] at h
    split at h
    · rename_i hs
      rw [List.reverse_cons]
      have := goM_snoc (ih (node_flip hm s) h) (swB_back hm hs)
      rw [flip_back hm s] at this
      exact this
    · cases h

/-- A switch by its number, and its number. -/
def decS (i : Nat) : Sw := ⟨((i / 125 : Nat) : Int), ((i / 25 % 5 : Nat) : Int), ((i / 5 % 5 : Nat) : Int), ((i % 5 : Nat) : Int)⟩
def codeS (s : Sw) : Int := ((s.y1 * 5 + s.y2) * 5 + s.x1) * 5 + s.x2
theorem code_dec (i : Nat) : codeS (decS i) = i := by unfold codeS decS; simp only; omega
/-- The switches up to a number, in order. -/
def upS (m : List (List Int)) (k : Nat) : List Sw := ((List.range k).filter fun i => swB m (decS i)).map decS
theorem upS_zero (m : List (List Int)) : upS m 0 = [] := rfl
theorem upS_yes {m : List (List Int)} {k : Nat} (h : swB m (decS k) = true) : upS m (k + 1) = upS m k ++ [decS k] := by
  unfold upS; rw [List.range_succ, List.filter_append, List.map_append]; simp [h]
theorem upS_no {m : List (List Int)} {k : Nat} (h : swB m (decS k) = false) : upS m (k + 1) = upS m k := by
  unfold upS; rw [List.range_succ, List.filter_append, List.map_append]; simp [h]
theorem upS_skip {m : List (List Int)} {k l : Nat} (hkl : k ≤ l) (h : ∀ i, k ≤ i → i < l → swB m (decS i) = false) : upS m l = upS m k := by
  induction l with
  | zero => obtain rfl : k = 0 := by omega
            rfl
  | succ l ih =>
    by_cases e : k = l + 1
    · rw [e]
    · rw [upS_no (h l (by omega) (by omega)), ih (by omega) fun i h1 h2 => h i h1 (by omega)]
def swsM (m : List (List Int)) : List Sw := upS m 625
theorem upS_len (m : List (List Int)) (k : Nat) : (upS m k).length ≤ k := by
  unfold upS; rw [List.length_map]
  exact Nat.le_trans (List.length_filter_le _ _) (by rw [List.length_range]; exact Nat.le_refl _)
theorem upS_mem {m : List (List Int)} {k : Nat} {s : Sw} (h : s ∈ upS m k) : swB m s = true ∧ ∃ i, i < k ∧ s = decS i := by
  unfold upS at h
  simp only [List.mem_map, List.mem_filter, List.mem_range] at h
  obtain ⟨i, ⟨h1, h2⟩, rfl⟩ := h
  exact ⟨h2, i, h1, rfl⟩
theorem sws_mem {R C : Nat} {m : List (List Int)} (hm : Node R C m) {s : Sw} : s ∈ swsM m ↔ swB m s = true := by
  refine ⟨fun h => (upS_mem h).1, fun h => ?_⟩
  obtain ⟨f, rfl, hI⟩ := hm
  have h0 := h
  rw [swB_mk hI] at h
  obtain ⟨a, b, c, d, rfl, hf⟩ := swF_iff.1 h
  have hf := four_iff.1 hf
  have := hI.r2; have := hI.c2
  unfold swsM upS
  simp only [List.mem_map, List.mem_filter, List.mem_range]
  have e : decS (((a * 5 + b) * 5 + c) * 5 + d) = ⟨a, b, c, d⟩ := by
    unfold decS
    rw [show (((a * 5 + b) * 5 + c) * 5 + d) / 125 = a by omega, show (((a * 5 + b) * 5 + c) * 5 + d) / 25 % 5 = b by omega, show (((a * 5 + b) * 5 + c) * 5 + d) / 5 % 5 = c by omega, show (((a * 5 + b) * 5 + c) * 5 + d) % 5 = d by omega]
  exact ⟨((a * 5 + b) * 5 + c) * 5 + d, ⟨by omega, by rw [e]; exact h0⟩, e⟩
/-- One switch comes before another. -/
def swlt (a b : Sw) : Prop := codeS a < codeS b
theorem upS_sorted (m : List (List Int)) (k : Nat) : (upS m k).Pairwise swlt := by
  unfold upS
  rw [List.pairwise_map]
  refine List.Pairwise.imp ?_ (List.Pairwise.filter _ (List.pairwise_lt_range (n := k)))
  intro a b h
  unfold swlt; rw [code_dec, code_dec]; omega
end Go.Proofs.Ytjnnoabaepmcnaa
/-
  Lists of switches by a number: the shorter ones first, equally long ones in order.
-/
namespace Go.Proofs.Ytjnnoabaepmcnaa

/-- The number of a switch, from 1 up to 625. -/
def numS (s : Sw) : Nat := (codeS s).toNat + 1
theorem num_dec (i : Nat) : numS (decS i) = i + 1 := by unfold numS; rw [code_dec]; rfl
def val (p : List Sw) : Nat := p.foldl (fun v s => v * 626 + numS s) 0
theorem val_nil : val [] = 0 := rfl
theorem val_snoc (p : List Sw) (s : Sw) : val (p ++ [s]) = val p * 626 + numS s := by simp [val, List.foldl_append]
theorem foldl_val (p : List Sw) : ∀ v, p.foldl (fun v s => v * 626 + numS s) v = v * 626 ^ p.length + val p := by
  induction p with
  | nil => intro v; simp [val]
  | cons s p ih =>
    intro v
    have h0 := ih (v * 626 + numS s)
    have h1 := ih (0 * 626 + numS s)
    unfold val
    simp only [List.foldl_cons, List.length_cons] at h0 h1 ⊢
    rw [h0, h1, Nat.pow_succ, Nat.add_mul, Nat.mul_assoc, Nat.mul_comm 626, Nat.zero_mul, Nat.zero_add, Nat.add_assoc]
theorem val_append (p q : List Sw) : val (p ++ q) = val p * 626 ^ q.length + val q := by
  have := foldl_val q (val p)
  unfold val at this ⊢
  rw [List.foldl_append, this]
theorem val_cons (s : Sw) (p : List Sw) : val (s :: p) = numS s * 626 ^ p.length + val p := by
  have := val_append [s] p
  simpa [val] using this
/-- Switches with numbers in their range. -/
def InR (p : List Sw) : Prop := ∀ s ∈ p, 1 ≤ numS s ∧ numS s ≤ 625
theorem inR_snoc {p : List Sw} {s : Sw} : InR (p ++ [s]) ↔ InR p ∧ (1 ≤ numS s ∧ numS s ≤ 625) := by
  unfold InR
  constructor
  · intro h; exact ⟨fun t ht => h t (by simp [ht]), h s (by simp)⟩
  · rintro ⟨h1, h2⟩ t ht
    rcases List.mem_append.1 ht with h | h
    · exact h1 t h
    · rw [List.mem_singleton] at h; subst h; exact h2
theorem inR_cons {p : List Sw} {s : Sw} : InR (s :: p) ↔ (1 ≤ numS s ∧ numS s ≤ 625) ∧ InR p := by
  unfold InR
  constructor
  · intro h; exact ⟨h s (by simp), fun t ht => h t (by simp [ht])⟩
  · rintro ⟨h1, h2⟩ t ht
    rcases List.mem_cons.1 ht with h | h
    · subst h; exact h1
    · exact h2 t h
theorem snoc_ind {α : Type} {C : List α → Prop} (h0 : C []) (h1 : ∀ p s, C p → C (p ++ [s])) : ∀ p, C p := by
  intro p
  have : ∀ n (p : List α), p.length = n → C p := by
    intro n
    induction n with
    | zero => intro p hp; rw [List.eq_nil_of_length_eq_zero hp]; exact h0
    | succ n ih =>
      intro p hp
      rcases List.eq_nil_or_concat p with rfl | ⟨q, b, rfl⟩
      · simp at hp
      · rw [List.concat_eq_append] at hp ⊢
        exact h1 q b (ih q (by simpa using hp))
  exact this _ p rfl
theorem val_lt {p : List Sw} (h : InR p) : val p + 1 ≤ 626 ^ p.length := by
  induction p using snoc_ind with
  | h0 => simp [val]
  | h1 p s ih =>
    obtain ⟨h1, h2⟩ := inR_snoc.1 h
    have := ih h1
    rw [val_snoc, List.length_append, List.length_singleton, Nat.pow_succ]
    omega
theorem val_ge {p : List Sw} (h : InR p) : 626 ^ p.length ≤ 626 * val p + 1 := by
  induction p using snoc_ind with
  | h0 => simp [val]
  | h1 p s ih =>
    obtain ⟨h1, h2⟩ := inR_snoc.1 h
    have := ih h1
    rw [val_snoc, List.length_append, List.length_singleton, Nat.pow_succ]
    omega
theorem val_short {p q : List Sw} (hp : InR p) (hq : InR q) (h : p.length < q.length) : val p < val q := by
  have h1 := val_lt hp
  have h2 := val_ge hq
  have h3 : 626 ^ (p.length + 1) ≤ 626 ^ q.length := Nat.pow_le_pow_right (by decide) h
  rw [Nat.pow_succ] at h3
  omega
theorem val_inj {p : List Sw} : ∀ {q : List Sw}, InR p → InR q → (∀ s ∈ p, ∃ i, i < 625 ∧ s = decS i) → (∀ s ∈ q, ∃ i, i < 625 ∧ s = decS i) → val p = val q → p = q := by
  induction p using snoc_ind with
  | h0 =>
    intro q _ hq _ _ h
    rcases List.eq_nil_or_concat q with rfl | ⟨q', b, rfl⟩
    · rfl
    · rw [List.concat_eq_append] at h hq
      have := (inR_snoc.1 hq).2
      rw [val_snoc, val_nil] at h
      omega
  | h1 p s ih =>
    intro q hp hq hp2 hq2 h
    obtain ⟨hp1, hs⟩ := inR_snoc.1 hp
    rcases List.eq_nil_or_concat q with rfl | ⟨q', b, rfl⟩
    · rw [val_snoc, val_nil] at h; omega
    · rw [List.concat_eq_append] at h hq hq2 ⊢
      obtain ⟨hq1, hb⟩ := inR_snoc.1 hq
      rw [val_snoc, val_snoc] at h
      have e1 : val p = val q' := by omega
      have e2 : numS s = numS b := by omega
      obtain ⟨i, hi, rfl⟩ := hp2 s (by simp)
      obtain ⟨j, hj, rfl⟩ := hq2 b (by simp)
      rw [num_dec, num_dec] at e2
      obtain rfl : i = j := by omega
      rw [ih hp1 hq1 (fun t ht => hp2 t (by simp [ht])) (fun t ht => hq2 t (by simp [ht])) e1]

/-- Each switch of an image has a number. -/
theorem swB_num {R C : Nat} {m : List (List Int)} (hm : Node R C m) {s : Sw} (h : swB m s = true) : ∃ i, i < 625 ∧ s = decS i := (upS_mem ((sws_mem hm).2 h)).2
theorem goM_inR {R C : Nat} : ∀ (p : List Sw) {m t : List (List Int)}, Node R C m → goM m p = some t → (∀ s ∈ p, ∃ i, i < 625 ∧ s = decS i)
  | [], _, _, _, _ => fun s hs => by simp at hs
  | s :: p, m, t, hm, h => by
    simp only [goM] at h
    split at h
    · rename_i hs
      intro u hu
      rcases List.mem_cons.1 hu with rfl | hu
      · exact swB_num hm hs
      · exact goM_inR p (node_flip hm s) h u hu
    · cases h
theorem inR_of {p : List Sw} (h : ∀ s ∈ p, ∃ i, i < 625 ∧ s = decS i) : InR p := fun s hs => by
  obtain ⟨i, hi, rfl⟩ := h s hs
  rw [num_dec]; omega
/-- A path that comes before all others. -/
def Best (m t : List (List Int)) (p : List Sw) : Prop := goM m p = some t ∧ ∀ q, goM m q = some t → val p ≤ val q
theorem best_one {R C : Nat} {m t : List (List Int)} {p q : List Sw} (hm : Node R C m) (h1 : Best m t p) (h2 : Best m t q) : p = q := by
  have a := goM_inR p hm h1.1; have b := goM_inR q hm h2.1
  exact val_inj (inR_of a) (inR_of b) a b (Nat.le_antisymm (h1.2 q h2.1) (h2.2 p h1.1))
theorem best_len {R C : Nat} {m t : List (List Int)} {p q : List Sw} (hm : Node R C m) (h : Best m t p) (hq : goM m q = some t) : p.length ≤ q.length := by
  refine Nat.le_of_not_lt fun hl => ?_
  have := val_short (inR_of (goM_inR q hm hq)) (inR_of (goM_inR p hm h.1)) hl
  have := h.2 q hq
  omega
/-- The rest of such a path is one too. -/
theorem best_tail {R C : Nat} {m t : List (List Int)} {s : Sw} {p : List Sw} (hm : Node R C m) (h : Best m t (s :: p)) : swB m s = true ∧ Best (flipM m s) t p := by
  obtain ⟨h1, h2⟩ := h
  simp only [goM] at h1
  split at h1
  · rename_i hs
    refine ⟨hs, h1, fun q hq => ?_⟩
    have hn := node_flip hm s
    have hg : goM m (s :: q) = some t := by simp only [goM, hs, if_true]; exact hq
    have h3 := h2 _ hg
    have ip := inR_of (goM_inR p hn h1); have iq := inR_of (goM_inR q hn hq)
    rcases Nat.lt_trichotomy p.length q.length with hl | hl | hl
    · exact Nat.le_of_lt (val_short ip iq hl)
    · rw [val_cons, val_cons, hl] at h3; omega
    · exfalso
      have i1 := inR_of (goM_inR (s :: q) hm hg)
      have i2 := inR_of (goM_inR (s :: p) hm (by simp only [goM, hs, if_true]; exact h1))
      have := val_short i1 i2 (by simp only [List.length_cons]; omega)
      omega
  · cases h1
theorem best_nil (m : List (List Int)) : Best m m [] := ⟨rfl, fun _ _ => Nat.zero_le _⟩
end Go.Proofs.Ytjnnoabaepmcnaa
