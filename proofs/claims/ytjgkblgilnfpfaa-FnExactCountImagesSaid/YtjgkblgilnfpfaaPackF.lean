/-
  Texts of this claim, one behind the other: PenI, Free.
-/
import Derived.Test.YtjgkblgilnfpfaaPackE
import Derived.OrdersIn
import Derived.TacticsIn
import Derived.Test.YtjgkblgilnfpfaaPackC
/-
  A region that draws its order inside a round of a range over a function; one operation (a call of yield) waits for all others but the last.
-/
namespace Go.Proofs.Ytjgkblgilnfpfaa
open Go.RowKit

section
variable {P : Program} {ops : Array Oper} {Q : Exit → Act → World → Prop}

theorem wpIn_of_wp {l n : Nat} {o : Oper} {a : Act} {w : World} {K : Act → World → Prop} (ho : ∀ c, o.op ≠ .defer c) (h : o.wp P a w K Q) : o.wpIn (Fence.wide.inRound l) n P a w K Q := by
  refine ⟨fun f _ => trivial, ?_⟩
  rw [Fence.inRound_round, Oper.semAt_some l _ _ ho]
  unfold Oper.wp at h
  cases hr : (execOp a.eval o).run P w with
  | ok v w' =>
    rw [hr] at h
    cases v with
    | value v => exact h
    | skip => exact h
    | defer d => exact h
    | enter f args => exact ⟨fun h => by simp [Fence.wide] at h, (show CallsIn Fence.wide (n - 1) P f args w' _ from callsIn_wide.2 h)⟩
    | row r args => exact ⟨fun h => by simp [Fence.wide] at h, fun c cs _ => let ⟨v, w', r, s⟩ := h c cs; ⟨v, w', r, stepsIn_wide.2 s⟩⟩
    | _ => exact h.elim
  | halt x w' =>
    rw [hr] at h
    cases x <;> exact h

def EachPI (Fc : Fence) (n : Nat) (P : Program) (ops : Array Oper) (pen : Nat) (Q : Exit → Act → World → Prop) (a0 : Act) (S : World → Prop) (F : Nat → Value → World → Prop) (i : Nat) (o : Oper) : Prop :=
  ∀ (a : Act) (w : World), a.tmps.size = a0.tmps.size → a.defers = a0.defers → (∀ t, outside ops.pop t = true → a.tmps.getD t undef = a0.tmps.getD t undef) → S w →
    (∀ (j : Nat) (oe : Oper) (d : Tmp), datT o j = true → ops[j]? = some oe → oe.dst = some d → F j (a.tmps.getD d undef) w) →
    ∀ K : Act → World → Prop, (∀ v w', (i ≠ pen → S w') → (∀ j, needP ops.toList i j = true → ∀ u, F j u w → F j u w') → F i v w' → K (a.put o.dst v) w') → wpOpIn Fc n P ops Q i K a w

theorem wpAnyIn_pen {Fc : Fence} {n : Nat} {pen : Nat} {a0 : Act} {S : World → Prop} {F : Nat → Value → World → Prop} {last : Oper} (hpen : ∀ i, i < ops.size - 1 → i ≠ pen → anc ops.toList ops.toList.length pen i = true) (hpl : pen < ops.size) (ho : orderly .any a0.tmps.size 0 [] ops.toList = true) (ht : tails .any ops.toList = true) (hl : ops[ops.size - 1]? = some last)
    (hop : ∀ (i : Nat) (o : Oper), ops[i]? = some o → i < ops.size - 1 → EachPI Fc n P ops pen Q a0 S F i o)
    (hlast : ∀ (a : Act) (w : World), a.tmps.size = a0.tmps.size → a.defers = a0.defers → (∀ t, outside ops.pop t = true → a.tmps.getD t undef = a0.tmps.getD t undef) →
      (∀ (i : Nat) (o : Oper) (d : Tmp), ops[i]? = some o → i < ops.size - 1 → o.dst = some d → datT last i = true → F i (a.tmps.getD d undef) w) → ∀ K : Act → World → Prop, (∀ a' w', Q .normal a' w' → K a' w') → wpOpIn Fc n P ops Q (ops.size - 1) K a w) :
    ∀ (fuel : Nat) (listed : Array Bool) (a : Act) (w : World), MidP ops pen a0 S F listed a w → Closed .any ops listed → listed.getD (ops.size - 1) true = false → unl listed ops.size ≤ fuel → wpAnyIn Fc n P .any ops Q fuel listed a w := by
  have hlt0 : ops.size - 1 < ops.size := (Array.getElem?_eq_some_iff.1 hl).1
  have hon : ∀ (i : Nat) (o : Oper), ops[i]? = some o → ∀ e ∈ o.after, Region.binds .any e = true → e.on < i := fun i o hi e he hbd => by
    have := orderly_on ops.toList 0 [] ho i o (by simpa using hi) e he hbd; omega
  have hdst : ∀ (i : Nat) (o : Oper) (d : Tmp), ops[i]? = some o → o.dst = some d → d < a0.tmps.size := fun i o d hi hd => (orderly_dst ops.toList 0 [] ho i o d (by simpa using hi) hd).1
  have hone : ∀ (i : Nat) (o : Oper) (d : Tmp), ops[i]? = some o → o.dst = some d → ∀ (j : Nat) (o' : Oper), ops[j]? = some o' → i ≠ j → o'.dst ≠ some d := fun i o d hi hd j o' hj hij e => by
    rcases Nat.lt_or_gt_of_ne hij with h | h
    · exact (orderly_dst ops.toList 0 [] ho i o d (by simpa using hi) hd).2.2 j o' (by simpa using hj) h e
    · exact (orderly_dst ops.toList 0 [] ho j o' d (by simpa using hj) e).2.2 i o (by simpa using hi) h hd
  intro fuel
  induction fuel with
  | zero =>
    intro listed a w hm hcl hul hf
    exfalso
    have := unl_set listed _ hul ops.size
    rw [if_pos hlt0] at this
    omega
  | succ fuel ih =>
    intro listed a w hm hcl hul hf
    refine ⟨fun hr => ?_, fun i hi => ?_⟩
    · exfalso
      have h1 := ready_none hm.size hon hr _ hlt0
      have hlt : ops.size - 1 < listed.size := by have := hm.size; omega
      simp [hlt] at hul h1
      rw [h1] at hul; cases hul
    obtain ⟨hul2, o, ho', hall⟩ := mem_ready.1 hi
    have hlt : i < ops.size := (Array.getElem?_eq_some_iff.1 ho').1
    by_cases e : i = ops.size - 1
    · subst e
      rw [hl] at ho'
      obtain rfl := Option.some.inj ho'
      have hab := fun j hj => all_before ht hcl hl hall _ j (Nat.le_refl _) hj
      refine hlast a w hm.tmps hm.defers hm.out (fun j oj d hj hjl hd hdep => hm.held j oj d hj hd (hab j hjl) ⟨_, _, hl, hul2, hdep⟩) _ fun a' w' hq => ?_
      have hrd : Region.ready .any ops (listed.setIfInBounds (ops.size - 1) true) = [] := by
        rw [List.eq_nil_iff_forall_not_mem]
        intro j hj
        obtain ⟨hl', o', ho'', -⟩ := mem_ready.1 hj
        have hj' : j < ops.size := (Array.getElem?_eq_some_iff.1 ho'').1
        have hls : ops.size - 1 < listed.size := by have := hm.size; omega
        by_cases ej : ops.size - 1 = j
        · subst ej; simp [hls] at hl'
        · rw [getD_set_ne true ej] at hl'
          have h1 := hab j (by omega)
          have hjs : j < listed.size := by have := hm.size; omega
          simp [hjs] at hl' h1
          rw [h1] at hl'; cases hl'
      cases fuel with
      | zero => exact ⟨hrd, hq⟩
      | succ fuel => exact ⟨fun _ => hq, fun j hj => by rw [hrd] at hj; cases hj⟩
    · have hpu : listed.getD pen false = false := by
        by_cases ep : i = pen
        · subst ep
          have hps : i < listed.size := by have := hm.size; omega
          simp [hps] at hul2 ⊢; exact hul2
        · cases h : listed.getD pen false with
          | false => rfl
          | true =>
            exfalso
            have h1 := anc_listed hcl _ pen i ops[pen] (Array.getElem?_eq_getElem hpl) (fun e he hbe => hcl pen ops[pen] (Array.getElem?_eq_getElem hpl) h e he hbe) (hpen i (by omega) ep)
            have his : i < listed.size := by have := hm.size; omega
            simp [his] at hul2 h1
            rw [h1] at hul2; cases hul2
      refine hop i o ho' (by omega) a w hm.tmps hm.defers hm.out (hm.world hpu) (fun j oe d hdj hoe hd => by
        obtain ⟨e, he, rfl, hb⟩ := depT_iff.1 (datT_dep hdj)
        exact hm.held e.on oe d hoe hd (hall e he hb) ⟨i, o, ho', hul2, hdj⟩) _ fun v w' hS hst hF => ?_
      have hls : listed.size = ops.size := hm.size
      refine ih _ _ _ ⟨by simp [hm.size], ?_, ?_, fun t ht => ?_, fun hpn => hS (fun ep => by subst ep; simp [show i < listed.size by omega] at hpn), fun j oj d hj hd hlj hcons => ?_⟩ (fun k ok hk hlk e' he' hb' => ?_) ?_ ?_
      · cases o.dst <;> simp [Act.put, hm.tmps]
      · cases o.dst <;> simp [Act.put, hm.defers]
      · rw [← hm.out t ht]
        cases hd : o.dst with
        | none => rfl
        | some d =>
          have hne : d ≠ t := by
            intro e; subst e
            unfold outside at ht
            rw [Array.all_eq_true_iff_forall_mem] at ht
            have := ht o (Array.mem_of_getElem? (i := i) (by rw [Array.getElem?_pop, if_pos (by omega)]; exact ho'))
            rw [hd] at this; simp at this
          simp [Act.put, Array.getElem?_setIfInBounds_ne hne]
      · by_cases e : i = j
        · subst e
          rw [ho'] at hj
          obtain rfl := Option.some.inj hj
          have hdl : d < a.tmps.size := by rw [hm.tmps]; exact hdst i o d ho' hd
          have : (a.put o.dst v).tmps.getD d undef = v := by rw [hd]; simp [Act.put, hdl]
          rw [this]; exact hF
        · have h1 : listed.getD j false = true := by rw [getD_set_ne false e] at hlj; exact hlj
          obtain ⟨k, ok, hk, huk, hdk⟩ := hcons
          have hki : i ≠ k := by
            intro e'; subst e'
            simp [show i < listed.size by omega] at huk
          have huk' : listed.getD k true = false := by rw [getD_set_ne true hki] at huk; exact huk
          have hanc : anc ops.toList ops.toList.length i k = false := by
            cases h : anc ops.toList ops.toList.length i k with
            | false => rfl
            | true =>
              have := anc_listed hcl _ i k o ho' hall h
              have hks : k < listed.size := by rw [hls]; exact (Array.getElem?_eq_some_iff.1 hk).1
              simp [hks] at this huk'
              rw [this] at huk'; cases huk'
          have h2 := hm.held j oj d hj hd h1 ⟨k, ok, hk, huk', hdk⟩
          have h3 : (a.put o.dst v).tmps.getD d undef = a.tmps.getD d undef := by
            cases hd' : o.dst with
            | none => rfl
            | some d' =>
              have hne : d' ≠ d := fun e' => hone j oj d hj hd i o ho' (Ne.symm e) (by rw [hd', e'])
              simp [Act.put, Array.getElem?_setIfInBounds_ne hne]
          have hji : anc ops.toList ops.toList.length j i = false := by
            cases h : anc ops.toList ops.toList.length j i with
            | false => rfl
            | true =>
              exfalso
              have := anc_listed hcl _ j i oj hj (fun e he hbe => hcl j oj hj h1 e he hbe) h
              have his : i < listed.size := by omega
              simp [his] at hul2 this
              rw [this] at hul2; cases hul2
          rw [h3]; exact hst j (needP_of (needB_of (Ne.symm e) (by simpa using hk) (Ne.symm hki) hanc hdk) hji) _ h2
      · by_cases ek : i = k
        · subst ek
          rw [ho'] at hk
          obtain rfl := Option.some.inj hk
          have h1 := hall e' he' hb'
          have h2 : i ≠ e'.on := by have := hon i o ho' e' he' hb'; omega
          rw [getD_set_ne false h2]; exact h1
        · rw [getD_set_ne false ek] at hlk
          have h1 := hcl k ok hk hlk e' he' hb'
          by_cases e2 : i = e'.on
          · rw [← e2]; simp [show i < listed.size by omega]
          · rw [getD_set_ne false e2]; exact h1
      · rw [getD_set_ne true e]; exact hul
      · have := unl_set listed i hul2 ops.size
        rw [if_pos hlt] at this; omega

/-- What is asked of one operation: its plain law, or (of a call of yield) the law in the round. -/
def Obi (l n : Nat) (P : Program) (Q : Exit → Act → World → Prop) (ls : List Oper) (pen : Nat) (base : List (Tmp × Value)) (dsts : List (Option Tmp)) (S : World → Prop) (fs : List FactP) (i : Nat) (o : Oper) : Prop :=
  ∀ (a : Act) (w : World), S w → (∀ t v, base.lookup t = some v → a.tmps.getD t undef = v) →
    (∀ j d, dsts[j]? = some (some d) → datT o j = true → factP fs j (a.tmps.getD d undef) w) →
    ∀ K : Act → World → Prop, (∀ v w', (i ≠ pen → S w') → (∀ j, needP ls i j = true → ∀ u, factP fs j u w → factP fs j u w') → factP fs i v w' → K (a.put o.dst v) w') →
      (o.guard = none ∨ ∃ j d, o.guard = some (j, true) ∧ dsts[j]? = some (some d) ∧ a.tmps.getD d undef = .bool true) ∧ o.wpIn (Fence.wide.inRound l) n P a w K Q
theorem obi_of {l n : Nat} {ls : List Oper} {pen : Nat} {base : List (Tmp × Value)} {dsts : List (Option Tmp)} {S : World → Prop} {fs : List FactP} {i : Nat} {o : Oper} (ho : ∀ c, o.op ≠ .defer c) (h : Obp P Q ls pen base dsts S fs i o) : Obi l n P Q ls pen base dsts S fs i o :=
  fun a w h1 h2 h3 K hK => let ⟨g, k⟩ := h a w h1 h2 h3 K hK; ⟨g, wpIn_of_wp ho k⟩

theorem wpIn_region_pen {n l : Nat} {id : Nat} {a : Act} {w : World} {S : World → Prop} (pen : Nat) (fs : List FactP) (base : List (Tmp × Value)) (dsts : List (Option Tmp)) (last : Oper) (k : Nat)
    (hpb : ((List.range (ops.size - 1)).all fun i => i == pen || anc ops.toList ops.toList.length pen i) = true) (hpl : pen < ops.size) (hm : P.follows .mixedOrders = true) (hk : ops.size = k + 1) (hlk : ops[k]? = some last) (ho : orderly .any a.tmps.size 0 [] ops.toList = true) (ht : tails .any ops.toList = true) (hd : ops.toList.map (·.dst) = dsts)
    (hbo : base.all (fun p => outside ops.pop p.1) = true) (hb : ∀ t v, base.lookup t = some v → a.tmps.getD t undef = v)
    (hS : S w.drew) (hob : AllOps (Obi l n P Q ops.toList pen base dsts S fs) 0 ops.toList.dropLast) (hgl : last.guard = none) (hpl2 : ∀ c, last.op ≠ .defer c)
    (hlast : ∀ (a' : Act) (w' : World), a'.tmps.size = a.tmps.size → a'.defers = a.defers → (∀ t, outside ops.pop t = true → a'.tmps.getD t undef = a.tmps.getD t undef) →
      (∀ j d, dsts[j]? = some (some d) → j < k → datT last j = true → factP fs j (a'.tmps.getD d undef) w') → ∀ K : Act → World → Prop, (∀ v w2, Q .normal (a'.put last.dst v) w2 → K (a'.put last.dst v) w2) → last.wp P a' w' K Q) :
    (Code.region id ops true).wpIn (Fence.wide.inRound l) n P Q a w := by
  have hl : ops[ops.size - 1]? = some last := by rw [hk]; exact hlk
  have hdst' : ∀ (j : Nat) (d : Tmp), dsts[j]? = some (some d) → ∃ o, ops[j]? = some o ∧ o.dst = some d := fun j d h => by
    rw [← hd, List.getElem?_map] at h
    cases hj : ops.toList[j]? with
    | none => rw [hj] at h; simp at h
    | some o =>
      rw [hj] at h
      exact ⟨o, by simpa using hj, by simpa using h⟩
  have hmem : ∀ (t : Tmp) (v : Value) (l : List (Tmp × Value)), l.lookup t = some v → ∃ p ∈ l, p.1 = t := fun t v l => by
    induction l with
    | nil => intro h; simp at h
    | cons x r ih =>
      intro h
      rw [List.lookup_cons] at h
      by_cases e : t == x.1
      · exact ⟨x, List.mem_cons_self, (by simpa using e : t = x.1).symm⟩
      · have e' : (t == x.1) = false := by simpa using e
        rw [e'] at h
        obtain ⟨p, hp, hpt⟩ := ih h
        exact ⟨p, List.mem_cons_of_mem _ hp, hpt⟩
  have hstart : ∀ k, k ≤ ops.size → unl (Array.replicate ops.size false) k = k := by
    intro k
    induction k with
    | zero => intro _; rfl
    | succ k ih =>
      intro hk
      rw [unl, ih (by omega)]
      have : (Array.replicate ops.size false).getD k true = false := by simp [show k < ops.size by omega]
      rw [this]; rfl
  refine wpIn_region_any hm (wpAnyIn_pen (pen := pen) (F := fun i u w => factP fs i u w) (fun i hi hne => by
    rw [List.all_eq_true] at hpb
    have := hpb i (List.mem_range.2 hi)
    rw [Bool.or_eq_true] at this
    exact this.resolve_left (by simpa using hne)) hpl ho ht hl (fun i o hi hil a' w' hts hds hout hSw hdep K hK => ?_) (fun a' w' h1 h2 h3 h5 K hK => ?_) _ _ _ _ ⟨by simp, rfl, rfl, fun _ _ => rfl, fun _ => hS, fun i o d hi _ hl _ => ?_⟩ (fun k o hk hlk => ?_) ?_ ?_)
  · have hbase : ∀ t v, base.lookup t = some v → a'.tmps.getD t undef = v := fun t v h => by
      obtain ⟨p, hp, rfl⟩ := hmem t v base h
      rw [List.all_eq_true] at hbo
      rw [hout p.1 (hbo p hp)]; exact hb p.1 v h
    have hdep' : ∀ j d, dsts[j]? = some (some d) → datT o j = true → factP fs j (a'.tmps.getD d undef) w' := fun j d h he => by
      obtain ⟨oe, hoe, hde⟩ := hdst' j d h
      exact hdep j oe d he hoe hde
    have hip : ops.toList.dropLast[i]? = some o := by
      have : ops.toList[i]? = some o := by simpa using hi
      rw [List.getElem?_dropLast, if_pos (by simpa using hil)]; exact this
    have hobi := allOps_at _ 0 hob i o hip
    rw [Nat.zero_add] at hobi
    obtain ⟨hg, hwp⟩ := hobi a' w' hSw hbase hdep' K hK
    have hwant : Region.wanted o (yielded ops a'.tmps) = true := by
      rcases hg with hg | ⟨j, d, hg, hj, hv⟩
      · simp [Region.wanted, hg]
      · obtain ⟨oj, hoj, hdj⟩ := hdst' j d hj
        have h1 : a'.tmps[d]? = some (.bool true) := by
          cases h : a'.tmps[d]? with
          | none => simp [h] at hv; cases hv
          | some u => simp [h] at hv; rw [hv]
        simp [Region.wanted, hg, yielded, hoj, hdj, h1]
    unfold wpOpIn
    simp only [hi, hwant, if_true]
    exact hwp
  · have hw := hlast a' w' h1 h2 h3 (fun j d h hj hdep => by
      obtain ⟨o, ho', hd'⟩ := hdst' j d h
      exact h5 j o d ho' (by omega) hd' hdep) K fun v w2 hq => hK _ _ hq
    unfold wpOpIn
    have hwant : Region.wanted last (yielded ops a'.tmps) = true := by simp [Region.wanted, hgl]
    simp only [hl, hwant, if_true]
    exact wpIn_of_wp hpl2 hw
  · exfalso
    have hlt : i < ops.size := (Array.getElem?_eq_some_iff.1 hi).1
    simp [hlt] at hl
  · exfalso
    have hlt : k < ops.size := (Array.getElem?_eq_some_iff.1 hk).1
    simp [hlt] at hlk
  · have hlt : ops.size - 1 < ops.size := by omega
    simp [hlt]
  · rw [hstart _ (Nat.le_refl _)]; exact Nat.le_refl _
end
end Go.Proofs.Ytjgkblgilnfpfaa
/-
  freeWhere: the cells in which another image differs become free.
-/
namespace Go.Proofs.Ytjgkblgilnfpfaa
open Go.RowKit

def frF (f g : Nat → Nat → Int) (y x : Nat) : Int := if f y x = g y x then f y x else -1
/-- .. up to row y, cell x. -/
def frP (f g : Nat → Nat → Int) (y x a b : Nat) : Int := if a < y ∨ (a = y ∧ b < x) then frF f g a b else f a b
theorem frP_zero (f g : Nat → Nat → Int) : frP f g 0 0 = f := by
  funext a b; unfold frP; rw [if_neg (by omega)]
theorem frP_row {R C : Nat} (f g : Nat → Nat → Int) (y : Nat) : mkM R C (frP f g y C) = mkM R C (frP f g (y + 1) 0) := by
  apply List.ext_getElem
  · simp [mkM]
  · intro a h1 h2
    rw [mkM_at, mkM_at]
    apply List.ext_getElem
    · simp [rowF_len]
    · intro b h3 h4
      rw [rowF_len] at h3
      rw [rowF_at, rowF_at]
      unfold frP
      by_cases h : a < y ∨ (a = y ∧ b < C)
      · rw [if_pos h, if_pos (by omega)]
      · rw [if_neg h, if_neg (by omega)]
theorem frP_all {R C : Nat} (f g : Nat → Nat → Int) : mkM R C (frP f g R 0) = mkM R C (frF f g) := by
  apply List.ext_getElem
  · simp [mkM]
  · intro a h1 h2
    rw [mkM_at, mkM_at]
    apply List.ext_getElem
    · simp [rowF_len]
    · intro b h3 h4
      rw [mkM_len] at h1
      rw [rowF_at, rowF_at, frP, if_pos (.inl h1)]
theorem frP_same {f g : Nat → Nat → Int} {y x : Nat} (h : f y x = g y x) : frP f g y x = frP f g y (x + 1) := by
  funext a b; unfold frP
  by_cases e : a = y ∧ b = x
  · obtain ⟨rfl, rfl⟩ := e
    rw [if_neg (by omega), if_pos (by omega), frF, if_pos h]
  · by_cases h1 : a < y ∨ (a = y ∧ b < x)
    · rw [if_pos h1, if_pos (by omega)]
    · rw [if_neg h1, if_neg (by omega)]
theorem frP_put {f g : Nat → Nat → Int} {y x : Nat} (h : ¬ f y x = g y x) : (fun a b => if a = y ∧ b = x then -1 else frP f g y x a b) = frP f g y (x + 1) := by
  funext a b; unfold frP
  by_cases e : a = y ∧ b = x
  · rw [if_pos e, if_pos (by omega)]
    obtain ⟨rfl, rfl⟩ := e
    rw [frF, if_neg h]
  · rw [if_neg e]
    by_cases h1 : a < y ∨ (a = y ∧ b < x)
    · rw [if_pos h1, if_pos (by omega)]
    · rw [if_neg h1, if_neg (by omega)]
theorem frP_at (f g : Nat → Nat → Int) (y x : Nat) : frP f g y x y x = f y x := by unfold frP; rw [if_neg (by omega)]

set_option maxRecDepth 100000 in
set_option maxHeartbeats 1000000 in
theorem freeWhere_any (v v2 : Value) (R C lo hi lo2 hi2 : Nat) (f g : Nat → Nat → Int) (w : World) (hR : 1 ≤ R ∧ R ≤ 5) (hC : 1 ≤ C ∧ C ≤ 5) (hv : OwnMat w lo hi v (mkM R C f)) (hm : OwnMat w lo2 hi2 v2 (mkM R C g)) (hd : hi ≤ lo2 ∨ hi2 ≤ lo) :
    Calls Try.prog 56 #[v, v2] w fun e w' => (∃ u, e = .returned u) ∧ OwnMat w' lo hi v (mkM R C (frF f g)) ∧ Within lo hi w w' := by
  obtain ⟨ga, ca, rfl⟩ := ownMat_some hv (by rw [mkM_len]; omega)
  obtain ⟨gb, cb, rfl⟩ := ownMat_some hm (by rw [mkM_len]; omega)
  rw [mkM_len] at hv hm ⊢
  rw [mkM_len]
  obtain ⟨hR1, hR5⟩ := hR
  obtain ⟨hC1, hC5⟩ := hC
  have HV := hide (show OwnMat w lo hi (.slice (some ⟨ga, 0, none⟩) R ca) (mkM R C (frP f g 0 0)) by rw [frP_zero]; exact hv)
  have HM := hide hm; have HD := hide hd
  clear hv hm hd
  go_enter Try.func56, Try.ntmps56
  go_wp2
  go_loopw [10] (fun i w' => ∃ y : Nat, y ≤ R ∧ i = .int .i64 y ∧ OwnMat w' lo hi (.slice (some ⟨ga, 0, none⟩) R ca) (mkM R C (frP f g y 0)) ∧ OwnMat w' lo2 hi2 (.slice (some ⟨gb, 0, none⟩) R cb) (mkM R C g) ∧ Within lo hi w w') (fun i _ => R - (intOf i).toNat)
  case atStart => exact ⟨0, Nat.zero_le _, rfl, HV.out, HM.out, within_refl _ _ _⟩
  case round =>
    obtain ⟨y, hy, rfl, hv, hm, hw⟩ := hrel
    have HV1 := hide hv; have HM1 := hide hm; have HW1 := hide hw
    clear hv hm hw
    by_cases hlt : y < R
    · obtain ⟨g2, c2, hrow2, -, -, -, -, -⟩ := ownMat_cell HM1.out y 0 hlt (by omega)
      have HR2 := hide hrow2
      go_wp2
      clear hrow2
      go_loopw [17] (fun i w' => ∃ x : Nat, x ≤ C ∧ i = .int .i64 x ∧ OwnMat w' lo hi (.slice (some ⟨ga, 0, none⟩) R ca) (mkM R C (frP f g y x)) ∧ (OwnMat w' lo2 hi2 (.slice (some ⟨gb, 0, none⟩) R cb) (mkM R C g) ∧ w'.cell? ⟨gb, y, none⟩ = some (.slice (some ⟨g2, 0, none⟩) C c2)) ∧ Within lo hi w w') (fun i _ => C - (intOf i).toNat)
      case atStart => exact ⟨0, Nat.zero_le _, rfl, HV1.out, ⟨HM1.out, HR2.out⟩, HW1.out⟩
      case round =>
        obtain ⟨x, hx, rfl, hv, hm, hw⟩ := hrel
        by_cases hlx : x < C
        · obtain ⟨g1, c1, hrow1, hcl1, hfr1, hlo1, hhi1, hset1⟩ := ownMat_cell hv y x hlt hlx
          obtain ⟨g3, c3, hrow3, hcl3, -, hlo3, hhi3, -⟩ := ownMat_cell hm.1 y x hlt hlx
          obtain ⟨rfl, rfl⟩ : g3 = g2 ∧ c3 = c2 := by have := hm.2; rw [hrow3] at this; cases this; exact ⟨rfl, rfl⟩
          rw [frP_at] at hcl1
          have HV2 := hide hv; have HM2 := hide hm; have HW2 := hide hw; have HSET := hide hset1
          obtain ⟨p, hp⟩ : ∃ p, p = f y x := ⟨_, rfl⟩
          obtain ⟨q, hq⟩ : ∃ q, q = g y x := ⟨_, rfl⟩
          have HP := hide hp; have HQ := hide hq
          rw [← hp] at hcl1
          rw [← hq] at hcl3
          clear hv hm hw hset1 hp hq
          by_cases e : p = q
          · have hne : (p != q) = false := by rw [e]; simp
            have HE := hide e
            clear e
            go_wp2
            go_roundw
            case rel => exact ⟨x + 1, by omega, by go_num, by rw [← frP_same (by rw [← HP.out, ← HQ.out]; exact HE.out)]; exact HV2.out, HM2.out, HW2.out⟩
            case measure => simp [intOf]; omega
          · have hne : (p != q) = true := bne_iff_ne.2 e
            have HE := hide e
            clear e
            go_wp2
            go_roundw
            case rel =>
              have hwi : Within lo hi wr (wr.setCell ⟨g1, x, none⟩ (.int .i64 (-1))) := ⟨rfl, rfl, rfl, by simp [World.setCell], fun k _ ho => Below.heap_setCell _ _ _ _ (show k ≠ g1 by omega)⟩
              refine ⟨x + 1, by omega, by go_num, by rw [← frP_put (by rw [← HP.out, ← HQ.out]; exact HE.out)]; exact HSET.out (-1), ⟨ownMat_within HM2.out.1 hwi (by have := HD.out; omega), ?_⟩, within_trans HW2.out hwi⟩
              have hgb : gb < lo ∨ hi ≤ gb := by
                obtain ⟨us, h1, h2, -⟩ := HM2.out.1
                have h3 := (h1.lt gb rfl).1
                have h4 := h2 gb rfl
                have := HD.out; omega
              exact (World.cell?_of_block (Below.heap_setCell _ _ _ _ (show gb ≠ g1 by omega))).trans HM2.out.2
            case measure => simp [intOf]; omega
        · obtain rfl : x = C := by omega
          have HV2 := hide hv; have HM2 := hide hm; have HW2 := hide hw
          clear hv hm hw
          go_wp2
          go_roundw
          case rel => exact ⟨y + 1, by omega, by go_num, by rw [← frP_row]; exact HV2.out, HM2.out.1, HW2.out⟩
          case measure => simp [intOf]; omega
    · obtain rfl : y = R := by omega
      go_wp2
      go_end0
      exact ⟨⟨_, rfl⟩, by rw [← frP_all]; exact HV1.out, HW1.out⟩
end Go.Proofs.Ytjgkblgilnfpfaa
