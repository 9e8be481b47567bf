/-
  Texts of this claim, one behind the other: PenI, Img, Free, Swap, Val, Bfs.
-/
import Derived.Test.YtcliiefedmiokaaGreatPackD
import Derived.OrdersIn
import Derived.TacticsIn
import Derived.Test.YtcliiefedmiokaaGreatPackB
/-
  A region that draws its order inside a round of a range over a function; one operation (a call of yield) waits for all others but the last.
-/
namespace Go.Proofs.YtcliiefedmiokaaGreat
open Go.RowKit

section
variable {P : Program} {ops : Array Oper} {Q : Exit → Act → World → Prop}

theorem wpIn_of_wp {l n : Nat} {o : Oper} {a : Act} {w : World} {K : Act → World → Prop} (ho : ∀ c, o.op ≠ .defer c) (h : o.wp P a w K Q) : o.wpIn (Fence.wide.inRound l) n P a w K Q := by
  refine ⟨fun f _ => trivial, ?_⟩
  rw [Fence.inRound_round, Oper.semAt_some l _ _ ho]
  unfold Oper.wp at h
  cases hr : (execOp a.eval o).run P w with
  | ok v w' =>
    rw [hr] at h
    cases v with
    | value v => exact h
    | skip => exact h
    | defer d => exact h
    | enter f args => exact ⟨fun h => by simp [Fence.wide] at h, (show CallsIn Fence.wide (n - 1) P f args w' _ from callsIn_wide.2 h)⟩
    | row r args => exact ⟨fun h => by simp [Fence.wide] at h, fun c cs _ => let ⟨v, w', r, s⟩ := h c cs; ⟨v, w', r, stepsIn_wide.2 s⟩⟩
    | _ => exact h.elim
  | halt x w' =>
    rw [hr] at h
    cases x <;> exact h

def EachPI (Fc : Fence) (n : Nat) (P : Program) (ops : Array Oper) (pen : Nat) (Q : Exit → Act → World → Prop) (a0 : Act) (S : World → Prop) (F : Nat → Value → World → Prop) (i : Nat) (o : Oper) : Prop :=
  ∀ (a : Act) (w : World), a.tmps.size = a0.tmps.size → a.defers = a0.defers → (∀ t, outside ops.pop t = true → a.tmps.getD t undef = a0.tmps.getD t undef) → S w →
    (∀ (j : Nat) (oe : Oper) (d : Tmp), datT o j = true → ops[j]? = some oe → oe.dst = some d → F j (a.tmps.getD d undef) w) →
    ∀ K : Act → World → Prop, (∀ v w', (i ≠ pen → S w') → (∀ j, needP ops.toList i j = true → ∀ u, F j u w → F j u w') → F i v w' → K (a.put o.dst v) w') → wpOpIn Fc n P ops Q i K a w

theorem wpAnyIn_pen {Fc : Fence} {n : Nat} {pen : Nat} {a0 : Act} {S : World → Prop} {F : Nat → Value → World → Prop} {last : Oper} (hpen : ∀ i, i < ops.size - 1 → i ≠ pen → anc ops.toList ops.toList.length pen i = true) (hpl : pen < ops.size) (ho : orderly .any a0.tmps.size 0 [] ops.toList = true) (ht : tails .any ops.toList = true) (hl : ops[ops.size - 1]? = some last)
    (hop : ∀ (i : Nat) (o : Oper), ops[i]? = some o → i < ops.size - 1 → EachPI Fc n P ops pen Q a0 S F i o)
    (hlast : ∀ (a : Act) (w : World), a.tmps.size = a0.tmps.size → a.defers = a0.defers → (∀ t, outside ops.pop t = true → a.tmps.getD t undef = a0.tmps.getD t undef) →
      (∀ (i : Nat) (o : Oper) (d : Tmp), ops[i]? = some o → i < ops.size - 1 → o.dst = some d → datT last i = true → F i (a.tmps.getD d undef) w) → ∀ K : Act → World → Prop, (∀ a' w', Q .normal a' w' → K a' w') → wpOpIn Fc n P ops Q (ops.size - 1) K a w) :
    ∀ (fuel : Nat) (listed : Array Bool) (a : Act) (w : World), MidP ops pen a0 S F listed a w → Closed .any ops listed → listed.getD (ops.size - 1) true = false → unl listed ops.size ≤ fuel → wpAnyIn Fc n P .any ops Q fuel listed a w := by
  have hlt0 : ops.size - 1 < ops.size := (Array.getElem?_eq_some_iff.1 hl).1
  have hon : ∀ (i : Nat) (o : Oper), ops[i]? = some o → ∀ e ∈ o.after, Region.binds .any e = true → e.on < i := fun i o hi e he hbd => by
    have := orderly_on ops.toList 0 [] ho i o (by simpa using hi) e he hbd; omega
  have hdst : ∀ (i : Nat) (o : Oper) (d : Tmp), ops[i]? = some o → o.dst = some d → d < a0.tmps.size := fun i o d hi hd => (orderly_dst ops.toList 0 [] ho i o d (by simpa using hi) hd).1
  have hone : ∀ (i : Nat) (o : Oper) (d : Tmp), ops[i]? = some o → o.dst = some d → ∀ (j : Nat) (o' : Oper), ops[j]? = some o' → i ≠ j → o'.dst ≠ some d := fun i o d hi hd j o' hj hij e => by
    rcases Nat.lt_or_gt_of_ne hij with h | h
    · exact (orderly_dst ops.toList 0 [] ho i o d (by simpa using hi) hd).2.2 j o' (by simpa using hj) h e
    · exact (orderly_dst ops.toList 0 [] ho j o' d (by simpa using hj) e).2.2 i o (by simpa using hi) h hd
  intro fuel
  induction fuel with
  | zero =>
    intro listed a w hm hcl hul hf
    exfalso
    have := unl_set listed _ hul ops.size
    rw [if_pos hlt0] at this
    omega
  | succ fuel ih =>
    intro listed a w hm hcl hul hf
    refine ⟨fun hr => ?_, fun i hi => ?_⟩
    · exfalso
      have h1 := ready_none hm.size hon hr _ hlt0
      have hlt : ops.size - 1 < listed.size := by have := hm.size; omega
      simp [hlt] at hul h1
      rw [h1] at hul; cases hul
    obtain ⟨hul2, o, ho', hall⟩ := mem_ready.1 hi
    have hlt : i < ops.size := (Array.getElem?_eq_some_iff.1 ho').1
    by_cases e : i = ops.size - 1
    · subst e
      rw [hl] at ho'
      obtain rfl := Option.some.inj ho'
      have hab := fun j hj => all_before ht hcl hl hall _ j (Nat.le_refl _) hj
      refine hlast a w hm.tmps hm.defers hm.out (fun j oj d hj hjl hd hdep => hm.held j oj d hj hd (hab j hjl) ⟨_, _, hl, hul2, hdep⟩) _ fun a' w' hq => ?_
      have hrd : Region.ready .any ops (listed.setIfInBounds (ops.size - 1) true) = [] := by
        rw [List.eq_nil_iff_forall_not_mem]
        intro j hj
        obtain ⟨hl', o', ho'', -⟩ := mem_ready.1 hj
        have hj' : j < ops.size := (Array.getElem?_eq_some_iff.1 ho'').1
        have hls : ops.size - 1 < listed.size := by have := hm.size; omega
        by_cases ej : ops.size - 1 = j
        · subst ej; simp [hls] at hl'
        · rw [getD_set_ne true ej] at hl'
          have h1 := hab j (by omega)
          have hjs : j < listed.size := by have := hm.size; omega
          simp [hjs] at hl' h1
          rw [h1] at hl'; cases hl'
      cases fuel with
      | zero => exact ⟨hrd, hq⟩
      | succ fuel => exact ⟨fun _ => hq, fun j hj => by rw [hrd] at hj; cases hj⟩
    · have hpu : listed.getD pen false = false := by
        by_cases ep : i = pen
        · subst ep
          have hps : i < listed.size := by have := hm.size; omega
          simp [hps] at hul2 ⊢; exact hul2
        · cases h : listed.getD pen false with
          | false => rfl
          | true =>
            exfalso
            have h1 := anc_listed hcl _ pen i ops[pen] (Array.getElem?_eq_getElem hpl) (fun e he hbe => hcl pen ops[pen] (Array.getElem?_eq_getElem hpl) h e he hbe) (hpen i (by omega) ep)
            have his : i < listed.size := by have := hm.size; omega
            simp [his] at hul2 h1
            rw [h1] at hul2; cases hul2
      refine hop i o ho' (by omega) a w hm.tmps hm.defers hm.out (hm.world hpu) (fun j oe d hdj hoe hd => by
        obtain ⟨e, he, rfl, hb⟩ := depT_iff.1 (datT_dep hdj)
        exact hm.held e.on oe d hoe hd (hall e he hb) ⟨i, o, ho', hul2, hdj⟩) _ fun v w' hS hst hF => ?_
      have hls : listed.size = ops.size := hm.size
      refine ih _ _ _ ⟨by simp [hm.size], ?_, ?_, fun t ht => ?_, fun hpn => hS (fun ep => by subst ep; simp [show i < listed.size by omega] at hpn), fun j oj d hj hd hlj hcons => ?_⟩ (fun k ok hk hlk e' he' hb' => ?_) ?_ ?_
      · cases o.dst <;> simp [Act.put, hm.tmps]
      · cases o.dst <;> simp [Act.put, hm.defers]
      · rw [← hm.out t ht]
        cases hd : o.dst with
        | none => rfl
        | some d =>
          have hne : d ≠ t := by
            intro e; subst e
            unfold outside at ht
            rw [Array.all_eq_true_iff_forall_mem] at ht
            have := ht o (Array.mem_of_getElem? (i := i) (by rw [Array.getElem?_pop, if_pos (by omega)]; exact ho'))
            rw [hd] at this; simp at this
          simp [Act.put, Array.getElem?_setIfInBounds_ne hne]
      · by_cases e : i = j
        · subst e
          rw [ho'] at hj
          obtain rfl := Option.some.inj hj
          have hdl : d < a.tmps.size := by rw [hm.tmps]; exact hdst i o d ho' hd
          have : (a.put o.dst v).tmps.getD d undef = v := by rw [hd]; simp [Act.put, hdl]
          rw [this]; exact hF
        · have h1 : listed.getD j false = true := by rw [getD_set_ne false e] at hlj; exact hlj
          obtain ⟨k, ok, hk, huk, hdk⟩ := hcons
          have hki : i ≠ k := by
            intro e'; subst e'
            simp [show i < listed.size by omega] at huk
          have huk' : listed.getD k true = false := by rw [getD_set_ne true hki] at huk; exact huk
          have hanc : anc ops.toList ops.toList.length i k = false := by
            cases h : anc ops.toList ops.toList.length i k with
            | false => rfl
            | true =>
              have := anc_listed hcl _ i k o ho' hall h
              have hks : k < listed.size := by rw [hls]; exact (Array.getElem?_eq_some_iff.1 hk).1
              simp [hks] at this huk'
              rw [this] at huk'; cases huk'
          have h2 := hm.held j oj d hj hd h1 ⟨k, ok, hk, huk', hdk⟩
          have h3 : (a.put o.dst v).tmps.getD d undef = a.tmps.getD d undef := by
            cases hd' : o.dst with
            | none => rfl
            | some d' =>
              have hne : d' ≠ d := fun e' => hone j oj d hj hd i o ho' (Ne.symm e) (by rw [hd', e'])
              simp [Act.put, Array.getElem?_setIfInBounds_ne hne]
          have hji : anc ops.toList ops.toList.length j i = false := by
            cases h : anc ops.toList ops.toList.length j i with
            | false => rfl
            | true =>
              exfalso
              have := anc_listed hcl _ j i oj hj (fun e he hbe => hcl j oj hj h1 e he hbe) h
              have his : i < listed.size := by omega
              simp [his] at hul2 this
              rw [this] at hul2; cases hul2
          rw [h3]; exact hst j (needP_of (needB_of (Ne.symm e) (by simpa using hk) (Ne.symm hki) hanc hdk) hji) _ h2
      · by_cases ek : i = k
        · subst ek
          rw [ho'] at hk
          obtain rfl := Option.some.inj hk
          have h1 := hall e' he' hb'
          have h2 : i ≠ e'.on := by have := hon i o ho' e' he' hb'; omega
          rw [getD_set_ne false h2]; exact h1
        · rw [getD_set_ne false ek] at hlk
          have h1 := hcl k ok hk hlk e' he' hb'
          by_cases e2 : i = e'.on
          · rw [← e2]; simp [show i < listed.size by omega]
          · rw [getD_set_ne false e2]; exact h1
      · rw [getD_set_ne true e]; exact hul
      · have := unl_set listed i hul2 ops.size
        rw [if_pos hlt] at this; omega

/-- What is asked of one operation: its plain law, or (of a call of yield) the law in the round. -/
def Obi (l n : Nat) (P : Program) (Q : Exit → Act → World → Prop) (ls : List Oper) (pen : Nat) (base : List (Tmp × Value)) (dsts : List (Option Tmp)) (S : World → Prop) (fs : List FactP) (i : Nat) (o : Oper) : Prop :=
  ∀ (a : Act) (w : World), S w → (∀ t v, base.lookup t = some v → a.tmps.getD t undef = v) →
    (∀ j d, dsts[j]? = some (some d) → datT o j = true → factP fs j (a.tmps.getD d undef) w) →
    ∀ K : Act → World → Prop, (∀ v w', (i ≠ pen → S w') → (∀ j, needP ls i j = true → ∀ u, factP fs j u w → factP fs j u w') → factP fs i v w' → K (a.put o.dst v) w') →
      (o.guard = none ∨ ∃ j d, o.guard = some (j, true) ∧ dsts[j]? = some (some d) ∧ a.tmps.getD d undef = .bool true) ∧ o.wpIn (Fence.wide.inRound l) n P a w K Q
theorem obi_of {l n : Nat} {ls : List Oper} {pen : Nat} {base : List (Tmp × Value)} {dsts : List (Option Tmp)} {S : World → Prop} {fs : List FactP} {i : Nat} {o : Oper} (ho : ∀ c, o.op ≠ .defer c) (h : Obp P Q ls pen base dsts S fs i o) : Obi l n P Q ls pen base dsts S fs i o :=
  fun a w h1 h2 h3 K hK => let ⟨g, k⟩ := h a w h1 h2 h3 K hK; ⟨g, wpIn_of_wp ho k⟩

theorem wpIn_region_pen {n l : Nat} {id : Nat} {a : Act} {w : World} {S : World → Prop} (pen : Nat) (fs : List FactP) (base : List (Tmp × Value)) (dsts : List (Option Tmp)) (last : Oper) (k : Nat)
    (hpb : ((List.range (ops.size - 1)).all fun i => i == pen || anc ops.toList ops.toList.length pen i) = true) (hpl : pen < ops.size) (hm : P.follows .mixedOrders = true) (hk : ops.size = k + 1) (hlk : ops[k]? = some last) (ho : orderly .any a.tmps.size 0 [] ops.toList = true) (ht : tails .any ops.toList = true) (hd : ops.toList.map (·.dst) = dsts)
    (hbo : base.all (fun p => outside ops.pop p.1) = true) (hb : ∀ t v, base.lookup t = some v → a.tmps.getD t undef = v)
    (hS : S w.drew) (hob : AllOps (Obi l n P Q ops.toList pen base dsts S fs) 0 ops.toList.dropLast) (hgl : last.guard = none) (hpl2 : ∀ c, last.op ≠ .defer c)
    (hlast : ∀ (a' : Act) (w' : World), a'.tmps.size = a.tmps.size → a'.defers = a.defers → (∀ t, outside ops.pop t = true → a'.tmps.getD t undef = a.tmps.getD t undef) →
      (∀ j d, dsts[j]? = some (some d) → j < k → datT last j = true → factP fs j (a'.tmps.getD d undef) w') → ∀ K : Act → World → Prop, (∀ v w2, Q .normal (a'.put last.dst v) w2 → K (a'.put last.dst v) w2) → last.wp P a' w' K Q) :
    (Code.region id ops true).wpIn (Fence.wide.inRound l) n P Q a w := by
  have hl : ops[ops.size - 1]? = some last := by rw [hk]; exact hlk
  have hdst' : ∀ (j : Nat) (d : Tmp), dsts[j]? = some (some d) → ∃ o, ops[j]? = some o ∧ o.dst = some d := fun j d h => by
    rw [← hd, List.getElem?_map] at h
    cases hj : ops.toList[j]? with
    | none => rw [hj] at h; simp at h
    | some o =>
      rw [hj] at h
      exact ⟨o, by simpa using hj, by simpa using h⟩
  have hmem : ∀ (t : Tmp) (v : Value) (l : List (Tmp × Value)), l.lookup t = some v → ∃ p ∈ l, p.1 = t := fun t v l => by
    induction l with
    | nil => intro h; simp at h
    | cons x r ih =>
      intro h
      rw [List.lookup_cons] at h
      by_cases e : t == x.1
      · exact ⟨x, List.mem_cons_self, (by simpa using e : t = x.1).symm⟩
      · have e' : (t == x.1) = false := by simpa using e
        rw [e'] at h
        obtain ⟨p, hp, hpt⟩ := ih h
        exact ⟨p, List.mem_cons_of_mem _ hp, hpt⟩
  have hstart : ∀ k, k ≤ ops.size → unl (Array.replicate ops.size false) k = k := by
    intro k
    induction k with
    | zero => intro _; rfl
    | succ k ih =>
      intro hk
      rw [unl, ih (by omega)]
      have : (Array.replicate ops.size false).getD k true = false := by simp [show k < ops.size by omega]
      rw [this]; rfl
  refine wpIn_region_any hm (wpAnyIn_pen (pen := pen) (F := fun i u w => factP fs i u w) (fun i hi hne => by
    rw [List.all_eq_true] at hpb
    have := hpb i (List.mem_range.2 hi)
    rw [Bool.or_eq_true] at this
    exact this.resolve_left (by simpa using hne)) hpl ho ht hl (fun i o hi hil a' w' hts hds hout hSw hdep K hK => ?_) (fun a' w' h1 h2 h3 h5 K hK => ?_) _ _ _ _ ⟨by simp, rfl, rfl, fun _ _ => rfl, fun _ => hS, fun i o d hi _ hl _ => ?_⟩ (fun k o hk hlk => ?_) ?_ ?_)
  · have hbase : ∀ t v, base.lookup t = some v → a'.tmps.getD t undef = v := fun t v h => by
      obtain ⟨p, hp, rfl⟩ := hmem t v base h
      rw [List.all_eq_true] at hbo
      rw [hout p.1 (hbo p hp)]; exact hb p.1 v h
    have hdep' : ∀ j d, dsts[j]? = some (some d) → datT o j = true → factP fs j (a'.tmps.getD d undef) w' := fun j d h he => by
      obtain ⟨oe, hoe, hde⟩ := hdst' j d h
      exact hdep j oe d he hoe hde
    have hip : ops.toList.dropLast[i]? = some o := by
      have : ops.toList[i]? = some o := by simpa using hi
      rw [List.getElem?_dropLast, if_pos (by simpa using hil)]; exact this
    have hobi := allOps_at _ 0 hob i o hip
    rw [Nat.zero_add] at hobi
    obtain ⟨hg, hwp⟩ := hobi a' w' hSw hbase hdep' K hK
    have hwant : Region.wanted o (yielded ops a'.tmps) = true := by
      rcases hg with hg | ⟨j, d, hg, hj, hv⟩
      · simp [Region.wanted, hg]
      · obtain ⟨oj, hoj, hdj⟩ := hdst' j d hj
        have h1 : a'.tmps[d]? = some (.bool true) := by
          cases h : a'.tmps[d]? with
          | none => simp [h] at hv; cases hv
          | some u => simp [h] at hv; rw [hv]
        simp [Region.wanted, hg, yielded, hoj, hdj, h1]
    unfold wpOpIn
    simp only [hi, hwant, if_true]
    exact hwp
  · have hw := hlast a' w' h1 h2 h3 (fun j d h hj hdep => by
      obtain ⟨o, ho', hd'⟩ := hdst' j d h
      exact h5 j o d ho' (by omega) hd' hdep) K fun v w2 hq => hK _ _ hq
    unfold wpOpIn
    have hwant : Region.wanted last (yielded ops a'.tmps) = true := by simp [Region.wanted, hgl]
    simp only [hl, hwant, if_true]
    exact wpIn_of_wp hpl2 hw
  · exfalso
    have hlt : i < ops.size := (Array.getElem?_eq_some_iff.1 hi).1
    simp [hlt] at hl
  · exfalso
    have hlt : k < ops.size := (Array.getElem?_eq_some_iff.1 hk).1
    simp [hlt] at hlk
  · have hlt : ops.size - 1 < ops.size := by omega
    simp [hlt]
  · rw [hstart _ (Nat.le_refl _)]; exact Nat.le_refl _
end
end Go.Proofs.YtcliiefedmiokaaGreat
/-
  Images by their cells: plain lists, what reads them and what owns them.
-/
namespace Go.Proofs.YtcliiefedmiokaaGreat
open Go.RowKit

def rowF (C : Nat) (f : Nat → Int) : List Int := (List.range C).map f
/-- The list of R rows of C cells. -/
def mkM (R C : Nat) (f : Nat → Nat → Int) : List (List Int) := (List.range R).map fun y => rowF C (f y)
theorem rowF_len (C : Nat) (f : Nat → Int) : (rowF C f).length = C := by simp [rowF]
theorem rowF_at (C : Nat) (f : Nat → Int) (x : Nat) (h : x < (rowF C f).length) : (rowF C f)[x] = f x := by simp [rowF]
theorem mkM_len (R C : Nat) (f : Nat → Nat → Int) : (mkM R C f).length = R := by simp [mkM]
theorem mkM_at (R C : Nat) (f : Nat → Nat → Int) (y : Nat) (h : y < (mkM R C f).length) : (mkM R C f)[y] = rowF C (f y) := by simp [mkM]
theorem rowF_congr {C : Nat} {f g : Nat → Int} (h : ∀ x, x < C → f x = g x) : rowF C f = rowF C g := List.map_congr_left fun x hx => h x (List.mem_range.1 hx)
theorem mkM_congr {R C : Nat} {f g : Nat → Nat → Int} (h : ∀ y x, y < R → x < C → f y x = g y x) : mkM R C f = mkM R C g :=
  List.map_congr_left fun y hy => rowF_congr fun x hx => h y x (List.mem_range.1 hy) hx
theorem mkM_succ (R C : Nat) (f : Nat → Nat → Int) : mkM (R + 1) C f = mkM R C f ++ [rowF C (f R)] := by simp [mkM, List.range_succ]
theorem rowF_set (C : Nat) (f : Nat → Int) (x : Nat) (v : Int) : (rowF C f).set x v = rowF C fun j => if j = x then v else f j := by
  apply List.ext_getElem
  · simp [rowF]
  · intro j h1 h2
    rw [List.getElem_set]
    by_cases e : x = j
    · subst e; simp [rowF]
    · simp [rowF, e, Ne.symm e]
theorem mkM_set (R C : Nat) (f : Nat → Nat → Int) (y x : Nat) (v : Int) : (mkM R C f).set y (rowF C fun j => if j = x then v else f y j) = mkM R C fun a b => if a = y ∧ b = x then v else f a b := by
  apply List.ext_getElem
  · simp [mkM]
  · intro j h1 h2
    rw [List.getElem_set]
    by_cases e : y = j
    · subst e; simp [mkM]
    · simp [mkM, e, Ne.symm e]
theorem cells_mkM (R C : Nat) (f : Nat → Nat → Int) : cellsM (mkM R C f) = R * C := by
  induction R with
  | zero => simp [mkM, cellsM]
  | succ R ih =>
    rw [mkM_succ]
    simp only [cellsM, List.map_append, List.sum_append, List.map_cons, List.map_nil, List.sum_cons, List.sum_nil, rowF_len] at ih ⊢
    rw [ih, Nat.succ_mul]; omega

/-- The cells of a valid image. -/
structure Img (R C : Nat) (f : Nat → Nat → Int) : Prop where
  r1 : 1 ≤ R
  r2 : R ≤ 5
  c1 : 1 ≤ C
  c2 : C ≤ 5
  cell : ∀ y x, y < R → x < C → f y x = 0 ∨ f y x = 1
theorem ok_img {m : List (List Int)} (h : okB m = true) : ∃ R C f, m = mkM R C f ∧ Img R C f := by
  simp only [okB, Bool.and_eq_true, decide_eq_true_eq, List.all_eq_true] at h
  obtain ⟨⟨⟨h1, h2⟩, h3, h4⟩, h5⟩ := h
  have hrow : ∀ y, (hy : y < m.length) → m[y].length = widthM m ∧ ∀ x, (hx : x < m[y].length) → m[y][x] = 0 ∨ m[y][x] = 1 := fun y hy => by
    have := h5 _ (List.getElem_mem hy)
    simp only [rowOk, Bool.and_eq_true, beq_iff_eq, List.all_eq_true] at this
    refine ⟨this.1, fun x hx => ?_⟩
    have := this.2 _ (List.getElem_mem hx)
    simpa [cellOk] using this
  refine ⟨m.length, widthM m, fun y x => (m.getD y []).getD x 0, ?_, h1, h2, h3, h4, fun y x hy hx => ?_⟩
  · apply List.ext_getElem
    · simp [mkM]
    · intro y hy1 hy2
      rw [mkM_at]
      apply List.ext_getElem
      · rw [rowF_len, (hrow y hy1).1]
      · intro x hx1 hx2
        rw [rowF_at, List.getD_eq_getElem?_getD, List.getD_eq_getElem?_getD, List.getElem?_eq_getElem hy1, Option.getD_some, List.getElem?_eq_getElem hx1]; rfl
  · have hx' : x < m[y].length := by rw [(hrow y hy).1]; exact hx
    have := (hrow y hy).2 x hx'
    simpa [List.getD_eq_getElem?_getD, List.getElem?_eq_getElem hy, List.getElem?_eq_getElem hx'] using this
theorem width_mkM {R C : Nat} {f : Nat → Nat → Int} (h : 0 < R) : widthM (mkM R C f) = C := by
  rw [width_at _ (by rw [mkM_len]; exact h), mkM_at, rowF_len]
theorem img_ok {R C : Nat} {f : Nat → Nat → Int} (h : Img R C f) : okB (mkM R C f) = true := by
  have hw := width_mkM (C := C) (f := f) (show 0 < R by have := h.r1; omega)
  refine okB_yes (by rw [mkM_len]; exact ⟨h.r1, h.r2⟩) (by rw [hw]; exact ⟨h.c1, h.c2⟩) fun k hk => ?_
  rw [hw, mkM_at]
  have hk' : k < R := by rw [mkM_len] at hk; exact hk
  refine rowOk_yes (rowF_len _ _) fun j hj => ?_
  rw [rowF_len] at hj
  rw [rowF_at]
  rcases h.cell k j hk' hj with e | e <;> rw [e] <;> rfl

/-- An image that is read: its rows' slices and its cells. -/
theorem inMat_img {w : World} {v : Value} {R C : Nat} {f : Nat → Nat → Int} (h : InMat w v (mkM R C f)) (hR : 0 < R) (hC : 0 < C) :
    ∃ g o c, v = .slice (some ⟨g, o, none⟩) R c ∧ g < w.heap.size ∧ ∀ y, y < R → ∃ g' o' c', w.cell? ⟨g, o + y, none⟩ = some (.slice (some ⟨g', o', none⟩) C c') ∧ g' < w.heap.size ∧ ∀ x, x < C → w.cell? ⟨g', o' + x, none⟩ = some (.int .i64 (f y x)) := by
  obtain ⟨a, c, rfl, -, hp⟩ := h
  obtain ⟨g, o, rfl, hg, hc⟩ := hp.resolve_left (by rw [mkM_len]; omega)
  refine ⟨g, o, c, by rw [mkM_len], hg, fun y hy => ?_⟩
  obtain ⟨u, hu, hr⟩ := hc y (by rw [mkM_len]; exact hy)
  rw [mkM_at] at hr
  obtain ⟨a', c', rfl, -, hp'⟩ := hr
  obtain ⟨g', o', rfl, hg', hc'⟩ := hp'.resolve_left (by rw [rowF_len]; omega)
  rw [rowF_len] at hu
  refine ⟨g', o', c', hu, hg', fun x hx => ?_⟩
  rw [hc' x (by rw [rowF_len]; exact hx), rowF_at]

/-- A cell of an image that the call owns: where it lies, and the image with another number in it. -/
theorem ownMat_cell {w : World} {lo hi g n c R C : Nat} {f : Nat → Nat → Int} (h : OwnMat w lo hi (.slice (some ⟨g, 0, none⟩) n c) (mkM R C f)) (y x : Nat) (hy : y < R) (hx : x < C) :
    ∃ g' c', w.cell? ⟨g, y, none⟩ = some (.slice (some ⟨g', 0, none⟩) C c') ∧ w.cell? ⟨g', x, none⟩ = some (.int .i64 (f y x)) ∧ w.frozen? ⟨g', x, none⟩ = false ∧ lo ≤ g' ∧ g' < hi ∧
      ∀ z : Int, OwnMat (w.setCell ⟨g', x, none⟩ (.int .i64 z)) lo hi (.slice (some ⟨g, 0, none⟩) n c) (mkM R C fun a b => if a = y ∧ b = x then z else f a b) := by
  obtain ⟨u, hu, -, hr, hh, hset⟩ := ownMat_row h y (by rw [mkM_len]; exact hy)
  rw [mkM_at, rowF_len] at hr hset
  obtain ⟨g', c', rfl, hlo, -, -, -, hc, hf⟩ := own_some hr (by omega)
  refine ⟨g', c', hu, ?_, hf x, hlo, hh _ rfl, fun z => ?_⟩
  · rw [hc x hx, ints_at _ x (by rw [rowF_len]; exact hx), rowF_at]
  · obtain ⟨h1, h2⟩ := hr.stored x (.int .i64 z)
    rw [ints_set, rowF_set] at h1
    have := hset _ _ h1 (rowF_len _ _) h2
    rw [mkM_set] at this; exact this

/-- The image as rows of five numbers, -1 where it has no cell. -/
def imgF (R C : Nat) (f : Nat → Nat → Int) (i : Nat) : Int := if i / 5 < R ∧ i % 5 < C then f (i / 5) (i % 5) else -1
theorem imgF_at (R C : Nat) (f : Nat → Nat → Int) (y x : Nat) (h : x < 5) : imgF R C f (5 * y + x) = if y < R ∧ x < C then f y x else -1 := by
  rw [imgF, show (5 * y + x) / 5 = y by omega, show (5 * y + x) % 5 = x by omega]
theorem imgF_range {R C : Nat} {f : Nat → Nat → Int} (h : Img R C f) (i : Nat) : imgF R C f i = -1 ∨ imgF R C f i = 0 ∨ imgF R C f i = 1 := by
  unfold imgF
  split
  · rename_i hh; rcases h.cell _ _ hh.1 hh.2 with e | e <;> simp [e]
  · exact .inl rfl

/-- How many of the first k numbers have p. -/
def cnt (p : Nat → Bool) : Nat → Nat
  | 0 => 0
  | k + 1 => cnt p k + if p k then 1 else 0
theorem cnt_yes {p : Nat → Bool} {k : Nat} (h : p k = true) : cnt p (k + 1) = cnt p k + 1 := by rw [cnt, if_pos h]
theorem cnt_no {p : Nat → Bool} {k : Nat} (h : p k = false) : cnt p (k + 1) = cnt p k := by rw [cnt, if_neg (by simp [h])]; rfl
theorem cnt_skip {p : Nat → Bool} {k l : Nat} (hkl : k ≤ l) (h : ∀ i, k ≤ i → i < l → p i = false) : cnt p l = cnt p k := by
  induction l with
  | zero => obtain rfl : k = 0 := by omega
            rfl
  | succ l ih =>
    by_cases e : k = l + 1
    · rw [e]
    · rw [cnt_no (h l (by omega) (by omega)), ih (by omega) fun i h1 h2 => h i h1 (by omega)]
theorem cnt_le (p : Nat → Bool) (k : Nat) : cnt p k ≤ k := by
  induction k with
  | zero => exact Nat.le_refl _
  | succ k ih => rw [cnt]; split <;> omega
def zeroM (_y _x : Nat) : Int := 0
end Go.Proofs.YtcliiefedmiokaaGreat
/-
  freeWhere: the cells in which another image differs become free.
-/
namespace Go.Proofs.YtcliiefedmiokaaGreat
open Go.RowKit

def frF (f g : Nat → Nat → Int) (y x : Nat) : Int := if f y x = g y x then f y x else -1
/-- .. up to row y, cell x. -/
def frP (f g : Nat → Nat → Int) (y x a b : Nat) : Int := if a < y ∨ (a = y ∧ b < x) then frF f g a b else f a b
theorem frP_zero (f g : Nat → Nat → Int) : frP f g 0 0 = f := by
  funext a b; unfold frP; rw [if_neg (by omega)]
theorem frP_row {R C : Nat} (f g : Nat → Nat → Int) (y : Nat) : mkM R C (frP f g y C) = mkM R C (frP f g (y + 1) 0) := by
  apply List.ext_getElem
  · simp [mkM]
  · intro a h1 h2
    rw [mkM_at, mkM_at]
    apply List.ext_getElem
    · simp [rowF_len]
    · intro b h3 h4
      rw [rowF_len] at h3
      rw [rowF_at, rowF_at]
      unfold frP
      by_cases h : a < y ∨ (a = y ∧ b < C)
      · rw [if_pos h, if_pos (by omega)]
      · rw [if_neg h, if_neg (by omega)]
theorem frP_all {R C : Nat} (f g : Nat → Nat → Int) : mkM R C (frP f g R 0) = mkM R C (frF f g) := by
  apply List.ext_getElem
  · simp [mkM]
  · intro a h1 h2
    rw [mkM_at, mkM_at]
    apply List.ext_getElem
    · simp [rowF_len]
    · intro b h3 h4
      rw [mkM_len] at h1
      rw [rowF_at, rowF_at, frP, if_pos (.inl h1)]
theorem frP_same {f g : Nat → Nat → Int} {y x : Nat} (h : f y x = g y x) : frP f g y x = frP f g y (x + 1) := by
  funext a b; unfold frP
  by_cases e : a = y ∧ b = x
  · obtain ⟨rfl, rfl⟩ := e
    rw [if_neg (by omega), if_pos (by omega), frF, if_pos h]
  · by_cases h1 : a < y ∨ (a = y ∧ b < x)
    · rw [if_pos h1, if_pos (by omega)]
    · rw [if_neg h1, if_neg (by omega)]
theorem frP_put {f g : Nat → Nat → Int} {y x : Nat} (h : ¬ f y x = g y x) : (fun a b => if a = y ∧ b = x then -1 else frP f g y x a b) = frP f g y (x + 1) := by
  funext a b; unfold frP
  by_cases e : a = y ∧ b = x
  · rw [if_pos e, if_pos (by omega)]
    obtain ⟨rfl, rfl⟩ := e
    rw [frF, if_neg h]
  · rw [if_neg e]
    by_cases h1 : a < y ∨ (a = y ∧ b < x)
    · rw [if_pos h1, if_pos (by omega)]
    · rw [if_neg h1, if_neg (by omega)]
theorem frP_at (f g : Nat → Nat → Int) (y x : Nat) : frP f g y x y x = f y x := by unfold frP; rw [if_neg (by omega)]

set_option maxRecDepth 100000 in
set_option maxHeartbeats 1000000 in
theorem freeWhere_any (v v2 : Value) (R C lo hi lo2 hi2 : Nat) (f g : Nat → Nat → Int) (w : World) (hR : 1 ≤ R ∧ R ≤ 5) (hC : 1 ≤ C ∧ C ≤ 5) (hv : OwnMat w lo hi v (mkM R C f)) (hm : OwnMat w lo2 hi2 v2 (mkM R C g)) (hd : hi ≤ lo2 ∨ hi2 ≤ lo) :
    Calls Tryz.prog 86 #[v, v2] w fun e w' => (∃ u, e = .returned u) ∧ OwnMat w' lo hi v (mkM R C (frF f g)) ∧ Within lo hi w w' := by
  obtain ⟨ga, ca, rfl⟩ := ownMat_some hv (by rw [mkM_len]; omega)
  obtain ⟨gb, cb, rfl⟩ := ownMat_some hm (by rw [mkM_len]; omega)
  rw [mkM_len] at hv hm ⊢
  rw [mkM_len]
  obtain ⟨hR1, hR5⟩ := hR
  obtain ⟨hC1, hC5⟩ := hC
  have HV := hide (show OwnMat w lo hi (.slice (some ⟨ga, 0, none⟩) R ca) (mkM R C (frP f g 0 0)) by rw [frP_zero]; exact hv)
  have HM := hide hm; have HD := hide hd
  clear hv hm hd
  go_enter Tryz.func86, Tryz.ntmps86
  go_wp2
  go_loopw [10] (fun i w' => ∃ y : Nat, y ≤ R ∧ i = .int .i64 y ∧ OwnMat w' lo hi (.slice (some ⟨ga, 0, none⟩) R ca) (mkM R C (frP f g y 0)) ∧ OwnMat w' lo2 hi2 (.slice (some ⟨gb, 0, none⟩) R cb) (mkM R C g) ∧ Within lo hi w w') (fun i _ => R - (intOf i).toNat)
  case atStart => exact ⟨0, Nat.zero_le _, rfl, HV.out, HM.out, within_refl _ _ _⟩
  case round =>
    obtain ⟨y, hy, rfl, hv, hm, hw⟩ := hrel
    have HV1 := hide hv; have HM1 := hide hm; have HW1 := hide hw
    clear hv hm hw
    by_cases hlt : y < R
    · obtain ⟨g2, c2, hrow2, -, -, -, -, -⟩ := ownMat_cell HM1.out y 0 hlt (by omega)
      have HR2 := hide hrow2
      go_wp2
      clear hrow2
      go_loopw [17] (fun i w' => ∃ x : Nat, x ≤ C ∧ i = .int .i64 x ∧ OwnMat w' lo hi (.slice (some ⟨ga, 0, none⟩) R ca) (mkM R C (frP f g y x)) ∧ (OwnMat w' lo2 hi2 (.slice (some ⟨gb, 0, none⟩) R cb) (mkM R C g) ∧ w'.cell? ⟨gb, y, none⟩ = some (.slice (some ⟨g2, 0, none⟩) C c2)) ∧ Within lo hi w w') (fun i _ => C - (intOf i).toNat)
      case atStart => exact ⟨0, Nat.zero_le _, rfl, HV1.out, ⟨HM1.out, HR2.out⟩, HW1.out⟩
      case round =>
        obtain ⟨x, hx, rfl, hv, hm, hw⟩ := hrel
        by_cases hlx : x < C
        · obtain ⟨g1, c1, hrow1, hcl1, hfr1, hlo1, hhi1, hset1⟩ := ownMat_cell hv y x hlt hlx
          obtain ⟨g3, c3, hrow3, hcl3, -, hlo3, hhi3, -⟩ := ownMat_cell hm.1 y x hlt hlx
          obtain ⟨rfl, rfl⟩ : g3 = g2 ∧ c3 = c2 := by have := hm.2; rw [hrow3] at this; cases this; exact ⟨rfl, rfl⟩
          rw [frP_at] at hcl1
          have HV2 := hide hv; have HM2 := hide hm; have HW2 := hide hw; have HSET := hide hset1
          obtain ⟨p, hp⟩ : ∃ p, p = f y x := ⟨_, rfl⟩
          obtain ⟨q, hq⟩ : ∃ q, q = g y x := ⟨_, rfl⟩
          have HP := hide hp; have HQ := hide hq
          rw [← hp] at hcl1
          rw [← hq] at hcl3
          clear hv hm hw hset1 hp hq
          by_cases e : p = q
          · have hne : (p != q) = false := by rw [e]; simp
            have HE := hide e
            clear e
            go_wp2
            go_roundw
            case rel => exact ⟨x + 1, by omega, by go_num, by rw [← frP_same (by rw [← HP.out, ← HQ.out]; exact HE.out)]; exact HV2.out, HM2.out, HW2.out⟩
            case measure => simp [intOf]; omega
          · have hne : (p != q) = true := bne_iff_ne.2 e
            have HE := hide e
            clear e
            go_wp2
            go_roundw
            case rel =>
              have hwi : Within lo hi wr (wr.setCell ⟨g1, x, none⟩ (.int .i64 (-1))) := ⟨rfl, rfl, rfl, by simp [World.setCell], fun k _ ho => Below.heap_setCell _ _ _ _ (show k ≠ g1 by omega)⟩
              refine ⟨x + 1, by omega, by go_num, by rw [← frP_put (by rw [← HP.out, ← HQ.out]; exact HE.out)]; exact HSET.out (-1), ⟨ownMat_within HM2.out.1 hwi (by have := HD.out; omega), ?_⟩, within_trans HW2.out hwi⟩
              have hgb : gb < lo ∨ hi ≤ gb := by
                obtain ⟨us, h1, h2, -⟩ := HM2.out.1
                have h3 := (h1.lt gb rfl).1
                have h4 := h2 gb rfl
                have := HD.out; omega
              exact (World.cell?_of_block (Below.heap_setCell _ _ _ _ (show gb ≠ g1 by omega))).trans HM2.out.2
            case measure => simp [intOf]; omega
        · obtain rfl : x = C := by omega
          have HV2 := hide hv; have HM2 := hide hm; have HW2 := hide hw
          clear hv hm hw
          go_wp2
          go_roundw
          case rel => exact ⟨y + 1, by omega, by go_num, by rw [← frP_row]; exact HV2.out, HM2.out.1, HW2.out⟩
          case measure => simp [intOf]; omega
    · obtain rfl : y = R := by omega
      go_wp2
      go_end0
      exact ⟨⟨_, rfl⟩, by rw [← frP_all]; exact HV1.out, HW1.out⟩
end Go.Proofs.YtcliiefedmiokaaGreat
/-
  Switches, pure: the four cells, an image after a switch, lists of switches in order, paths.
-/
namespace Go.Proofs.YtcliiefedmiokaaGreat

/-- A switch: two rows and two columns. -/
structure Sw where
  y1 : Int
  y2 : Int
  x1 : Int
  x2 : Int
instance : DecidableEq Sw := fun a b =>
  if h : a.y1 = b.y1 ∧ a.y2 = b.y2 ∧ a.x1 = b.x1 ∧ a.x2 = b.x2 then isTrue (by obtain ⟨a1, a2, a3, a4⟩ := a; obtain ⟨b1, b2, b3, b4⟩ := b; simp only at h; obtain ⟨rfl, rfl, rfl, rfl⟩ := h; rfl)
  else isFalse fun e => h (by rw [e]; exact ⟨rfl, rfl, rfl, rfl⟩)
def zeroSw : Sw := ⟨0, 0, 0, 0⟩
/-- The cell of a list. -/
def cellM (m : List (List Int)) (y x : Nat) : Int := (m.getD y []).getD x 0
theorem cell_mk (R C : Nat) (f : Nat → Nat → Int) {y x : Nat} (hy : y < R) (hx : x < C) : cellM (mkM R C f) y x = f y x := by
  simp [cellM, mkM, rowF, hy, hx]
theorem mk_cell (R C : Nat) (f : Nat → Nat → Int) : mkM R C (cellM (mkM R C f)) = mkM R C f := mkM_congr fun _ _ hy hx => cell_mk R C f hy hx
/-- The four cells of a switch, by number. -/
def four (R C : Nat) (f : Nat → Nat → Int) (a b c d : Nat) : Bool :=
  decide (a < b) && decide (c < d) && decide (b < R) && decide (d < C) && decide (f b d = f a c) && decide (f a d = 1 - f a c) && decide (f b c = 1 - f a c)
theorem four_iff {R C : Nat} {f : Nat → Nat → Int} {a b c d : Nat} : four R C f a b c d = true ↔ a < b ∧ c < d ∧ b < R ∧ d < C ∧ f b d = f a c ∧ f a d = 1 - f a c ∧ f b c = 1 - f a c := by
  simp [four, Bool.and_eq_true, and_assoc]
/-- A switch of an image. -/
def swF (R C : Nat) (f : Nat → Nat → Int) (s : Sw) : Bool :=
  decide (0 ≤ s.y1) && decide (0 ≤ s.x1) && decide (s.y1 < s.y2) && decide (s.x1 < s.x2) && four R C f s.y1.toNat s.y2.toNat s.x1.toNat s.x2.toNat
theorem swF_iff {R C : Nat} {f : Nat → Nat → Int} {s : Sw} : swF R C f s = true ↔ ∃ a b c d : Nat, s = ⟨a, b, c, d⟩ ∧ four R C f a b c d = true := by
  constructor
  · intro h
    simp only [swF, Bool.and_eq_true, decide_eq_true_eq] at h
    obtain ⟨⟨⟨⟨h1, h2⟩, h3⟩, h4⟩, h5⟩ := h
    refine ⟨_, _, _, _, ?_, h5⟩
    obtain ⟨y1, y2, x1, x2⟩ := s
    simp only at h1 h2 h3 h4 ⊢
    rw [Int.toNat_of_nonneg h1, Int.toNat_of_nonneg (by omega), Int.toNat_of_nonneg h2, Int.toNat_of_nonneg (by omega)]
  · rintro ⟨a, b, c, d, rfl, h⟩
    have := four_iff.1 h
    simp only [swF, Bool.and_eq_true, decide_eq_true_eq]
    exact ⟨⟨⟨⟨by omega, by omega⟩, by omega⟩, by omega⟩, by simpa using h⟩
theorem four_congr {R C : Nat} {f g : Nat → Nat → Int} (h : ∀ y x, y < R → x < C → f y x = g y x) (a b c d : Nat) : four R C f a b c d = four R C g a b c d := by
  rw [Bool.eq_iff_iff, four_iff, four_iff]
  constructor
  · rintro ⟨h1, h2, h3, h4, h5⟩
    rw [h b d h3 h4, h a c (by omega) (by omega), h a d (by omega) h4, h b c h3 (by omega)] at h5
    exact ⟨h1, h2, h3, h4, h5⟩
  · rintro ⟨h1, h2, h3, h4, h5⟩
    rw [← h b d h3 h4, ← h a c (by omega) (by omega), ← h a d (by omega) h4, ← h b c h3 (by omega)] at h5
    exact ⟨h1, h2, h3, h4, h5⟩
theorem swF_congr {R C : Nat} {f g : Nat → Nat → Int} (h : ∀ y x, y < R → x < C → f y x = g y x) (s : Sw) : swF R C f s = swF R C g s := by
  unfold swF; rw [four_congr h]
/-- The cells after a switch. -/
def flipN (f : Nat → Nat → Int) (a b c d : Nat) (y x : Nat) : Int := if (y = a ∨ y = b) ∧ (x = c ∨ x = d) then 1 - f y x else f y x
def flipF (f : Nat → Nat → Int) (s : Sw) : Nat → Nat → Int := flipN f s.y1.toNat s.y2.toNat s.x1.toNat s.x2.toNat
theorem flipN_img {R C : Nat} {f : Nat → Nat → Int} (h : Img R C f) (a b c d : Nat) : Img R C (flipN f a b c d) :=
  ⟨h.r1, h.r2, h.c1, h.c2, fun y x hy hx => by unfold flipN; split <;> rcases h.cell y x hy hx with e | e <;> simp [e]⟩
theorem flipF_img {R C : Nat} {f : Nat → Nat → Int} (h : Img R C f) (s : Sw) : Img R C (flipF f s) := flipN_img h _ _ _ _
theorem flipN_flip (f : Nat → Nat → Int) (a b c d : Nat) : flipN (flipN f a b c d) a b c d = f := by
  funext y x
  unfold flipN
  by_cases h : (y = a ∨ y = b) ∧ (x = c ∨ x = d)
  · rw [if_pos h, if_pos h]; omega
  · rw [if_neg h, if_neg h]
theorem flipF_flip (f : Nat → Nat → Int) (s : Sw) : flipF (flipF f s) s = f := flipN_flip f _ _ _ _
theorem flipN_congr {R C : Nat} {f g : Nat → Nat → Int} (h : ∀ y x, y < R → x < C → f y x = g y x) (a b c d : Nat) : ∀ y x, y < R → x < C → flipN f a b c d y x = flipN g a b c d y x := by
  intro y x hy hx; unfold flipN; rw [h y x hy hx]
theorem four_flip {R C : Nat} {f : Nat → Nat → Int} {a b c d : Nat} (h : four R C f a b c d = true) : four R C (flipN f a b c d) a b c d = true := by
  have := four_iff.1 h
  refine four_iff.2 ⟨this.1, this.2.1, this.2.2.1, this.2.2.2.1, ?_⟩
  unfold flipN
  simp
  omega
theorem swF_flip {R C : Nat} {f : Nat → Nat → Int} {s : Sw} (h : swF R C f s = true) : swF R C (flipF f s) s = true := by
  obtain ⟨a, b, c, d, rfl, h'⟩ := swF_iff.1 h
  exact swF_iff.2 ⟨a, b, c, d, rfl, by simpa [flipF] using four_flip h'⟩

/-- The same of lists. -/
def swB (m : List (List Int)) (s : Sw) : Bool := swF m.length (widthM m) (cellM m) s
def flipM (m : List (List Int)) (s : Sw) : List (List Int) := mkM m.length (widthM m) (flipF (cellM m) s)
theorem swB_mk {R C : Nat} {f : Nat → Nat → Int} (h : Img R C f) (s : Sw) : swB (mkM R C f) s = swF R C f s := by
  have := h.r1
  unfold swB
  rw [mkM_len, width_mkM (by omega)]
  exact swF_congr (fun y x hy hx => cell_mk R C f hy hx) s
theorem flipM_mk {R C : Nat} {f : Nat → Nat → Int} (h : Img R C f) (s : Sw) : flipM (mkM R C f) s = mkM R C (flipF f s) := by
  have := h.r1
  unfold flipM
  rw [mkM_len, width_mkM (by omega)]
  exact mkM_congr (flipN_congr (fun y x hy hx => cell_mk R C f hy hx) _ _ _ _)

/-- A node: a list that is a valid image of this size. -/
def Node (R C : Nat) (m : List (List Int)) : Prop := ∃ f, m = mkM R C f ∧ Img R C f
theorem node_flip {R C : Nat} {m : List (List Int)} (h : Node R C m) (s : Sw) : Node R C (flipM m s) := by
  obtain ⟨f, rfl, h⟩ := h
  exact ⟨_, flipM_mk h s, flipF_img h s⟩
theorem flip_back {R C : Nat} {m : List (List Int)} (h : Node R C m) (s : Sw) : flipM (flipM m s) s = m := by
  obtain ⟨f, rfl, h⟩ := h
  rw [flipM_mk h, flipM_mk (flipF_img h s), flipF_flip]
theorem swB_back {R C : Nat} {m : List (List Int)} (h : Node R C m) {s : Sw} (hs : swB m s = true) : swB (flipM m s) s = true := by
  obtain ⟨f, rfl, h⟩ := h
  rw [swB_mk h] at hs
  rw [flipM_mk h, swB_mk (flipF_img h s)]
  exact swF_flip hs

/-- Switches one after the other. -/
def goM : List (List Int) → List Sw → Option (List (List Int))
  | m, [] => some m
  | m, s :: p => if swB m s then goM (flipM m s) p else none
theorem goM_append (m : List (List Int)) (p q : List Sw) : goM m (p ++ q) = (goM m p).bind fun t => goM t q := by
  induction p generalizing m with
  | nil => rfl
  | cons s p ih =>
    simp only [List.cons_append, goM]
    split
    · exact ih _
    · rfl
theorem goM_snoc {m t : List (List Int)} {p : List Sw} {s : Sw} (h : goM m p = some t) (hs : swB t s = true) : goM m (p ++ [s]) = some (flipM t s) := by
  rw [goM_append, h]
  simp [goM, hs]
theorem goM_unsnoc {m u : List (List Int)} {p : List Sw} {s : Sw} (h : goM m (p ++ [s]) = some u) : ∃ t, goM m p = some t ∧ swB t s = true ∧ u = flipM t s := by
  rw [goM_append] at h
  cases ht : goM m p with
  | none => rw [ht] at h; cases h
  | some t =>
    rw [ht] at h
    simp only [Option.bind_some, goM] at h
    split at h
    · rename_i hs; exact ⟨t, rfl, hs, (Option.some.inj h).symm⟩
    · cases h
theorem goM_node {R C : Nat} {m t : List (List Int)} {p : List Sw} (hm : Node R C m) (h : goM m p = some t) : Node R C t := by
  induction p generalizing m with
  | nil => cases h; exact hm
  | cons s p ih =>
    simp only [goM] at h
    split at h
    · exact ih (node_flip hm s) h
    · cases h
theorem goM_rev {R C : Nat} {m t : List (List Int)} {p : List Sw} (hm : Node R C m) (h : goM m p = some t) : goM t p.reverse = some m := by
  induction p generalizing m with
  | nil => cases h; rfl
  | cons s p ih =>
    simp only [goM] at h
    split at h
    · rename_i hs
      rw [List.reverse_cons]
      have := goM_snoc (ih (node_flip hm s) h) (swB_back hm hs)
      rw [flip_back hm s] at this
      exact this
    · cases h

/-- A switch by its number, and its number. -/
def decS (i : Nat) : Sw := ⟨((i / 125 : Nat) : Int), ((i / 25 % 5 : Nat) : Int), ((i / 5 % 5 : Nat) : Int), ((i % 5 : Nat) : Int)⟩
def codeS (s : Sw) : Int := ((s.y1 * 5 + s.y2) * 5 + s.x1) * 5 + s.x2
theorem code_dec (i : Nat) : codeS (decS i) = i := by unfold codeS decS; simp only; omega
/-- The switches up to a number, in order. -/
def upS (m : List (List Int)) (k : Nat) : List Sw := ((List.range k).filter fun i => swB m (decS i)).map decS
theorem upS_zero (m : List (List Int)) : upS m 0 = [] := rfl
theorem upS_yes {m : List (List Int)} {k : Nat} (h : swB m (decS k) = true) : upS m (k + 1) = upS m k ++ [decS k] := by
  unfold upS; rw [List.range_succ, List.filter_append, List.map_append]; simp [h]
theorem upS_no {m : List (List Int)} {k : Nat} (h : swB m (decS k) = false) : upS m (k + 1) = upS m k := by
  unfold upS; rw [List.range_succ, List.filter_append, List.map_append]; simp [h]
theorem upS_skip {m : List (List Int)} {k l : Nat} (hkl : k ≤ l) (h : ∀ i, k ≤ i → i < l → swB m (decS i) = false) : upS m l = upS m k := by
  induction l with
  | zero => obtain rfl : k = 0 := by omega
            rfl
  | succ l ih =>
    by_cases e : k = l + 1
    · rw [e]
    · rw [upS_no (h l (by omega) (by omega)), ih (by omega) fun i h1 h2 => h i h1 (by omega)]
def swsM (m : List (List Int)) : List Sw := upS m 625
theorem upS_len (m : List (List Int)) (k : Nat) : (upS m k).length ≤ k := by
  unfold upS; rw [List.length_map]
  exact Nat.le_trans (List.length_filter_le _ _) (by rw [List.length_range]; exact Nat.le_refl _)
theorem upS_mem {m : List (List Int)} {k : Nat} {s : Sw} (h : s ∈ upS m k) : swB m s = true ∧ ∃ i, i < k ∧ s = decS i := by
  unfold upS at h
  simp only [List.mem_map, List.mem_filter, List.mem_range] at h
  obtain ⟨i, ⟨h1, h2⟩, rfl⟩ := h
  exact ⟨h2, i, h1, rfl⟩
theorem sws_mem {R C : Nat} {m : List (List Int)} (hm : Node R C m) {s : Sw} : s ∈ swsM m ↔ swB m s = true := by
  refine ⟨fun h => (upS_mem h).1, fun h => ?_⟩
  obtain ⟨f, rfl, hI⟩ := hm
  have h0 := h
  rw [swB_mk hI] at h
  obtain ⟨a, b, c, d, rfl, hf⟩ := swF_iff.1 h
  have hf := four_iff.1 hf
  have := hI.r2; have := hI.c2
  unfold swsM upS
  simp only [List.mem_map, List.mem_filter, List.mem_range]
  have e : decS (((a * 5 + b) * 5 + c) * 5 + d) = ⟨a, b, c, d⟩ := by
    unfold decS
    rw [show (((a * 5 + b) * 5 + c) * 5 + d) / 125 = a by omega, show (((a * 5 + b) * 5 + c) * 5 + d) / 25 % 5 = b by omega, show (((a * 5 + b) * 5 + c) * 5 + d) / 5 % 5 = c by omega, show (((a * 5 + b) * 5 + c) * 5 + d) % 5 = d by omega]
  exact ⟨((a * 5 + b) * 5 + c) * 5 + d, ⟨by omega, by rw [e]; exact h0⟩, e⟩
/-- One switch comes before another. -/
def swlt (a b : Sw) : Prop := codeS a < codeS b
theorem upS_sorted (m : List (List Int)) (k : Nat) : (upS m k).Pairwise swlt := by
  unfold upS
  rw [List.pairwise_map]
  refine List.Pairwise.imp ?_ (List.Pairwise.filter _ (List.pairwise_lt_range (n := k)))
  intro a b h
  unfold swlt; rw [code_dec, code_dec]; omega
end Go.Proofs.YtcliiefedmiokaaGreat
/-
  Lists of switches by a number: the shorter ones first, equally long ones in order.
-/
namespace Go.Proofs.YtcliiefedmiokaaGreat

/-- The number of a switch, from 1 up to 625. -/
def numS (s : Sw) : Nat := (codeS s).toNat + 1
theorem num_dec (i : Nat) : numS (decS i) = i + 1 := by unfold numS; rw [code_dec]; rfl
def val (p : List Sw) : Nat := p.foldl (fun v s => v * 626 + numS s) 0
theorem val_nil : val [] = 0 := rfl
theorem val_snoc (p : List Sw) (s : Sw) : val (p ++ [s]) = val p * 626 + numS s := by simp [val, List.foldl_append]
theorem foldl_val (p : List Sw) : ∀ v, p.foldl (fun v s => v * 626 + numS s) v = v * 626 ^ p.length + val p := by
  induction p with
  | nil => intro v; simp [val]
  | cons s p ih =>
    intro v
    have h0 := ih (v * 626 + numS s)
    have h1 := ih (0 * 626 + numS s)
    unfold val
    simp only [List.foldl_cons, List.length_cons] at h0 h1 ⊢
    rw [h0, h1, Nat.pow_succ, Nat.add_mul, Nat.mul_assoc, Nat.mul_comm 626, Nat.zero_mul, Nat.zero_add, Nat.add_assoc]
theorem val_append (p q : List Sw) : val (p ++ q) = val p * 626 ^ q.length + val q := by
  have := foldl_val q (val p)
  unfold val at this ⊢
  rw [List.foldl_append, this]
theorem val_cons (s : Sw) (p : List Sw) : val (s :: p) = numS s * 626 ^ p.length + val p := by
  have := val_append [s] p
  simpa [val] using this
/-- Switches with numbers in their range. -/
def InR (p : List Sw) : Prop := ∀ s ∈ p, 1 ≤ numS s ∧ numS s ≤ 625
theorem inR_snoc {p : List Sw} {s : Sw} : InR (p ++ [s]) ↔ InR p ∧ (1 ≤ numS s ∧ numS s ≤ 625) := by
  unfold InR
  constructor
  · intro h; exact ⟨fun t ht => h t (by simp [ht]), h s (by simp)⟩
  · rintro ⟨h1, h2⟩ t ht
    rcases List.mem_append.1 ht with h | h
    · exact h1 t h
    · rw [List.mem_singleton] at h; subst h; exact h2
theorem inR_cons {p : List Sw} {s : Sw} : InR (s :: p) ↔ (1 ≤ numS s ∧ numS s ≤ 625) ∧ InR p := by
  unfold InR
  constructor
  · intro h; exact ⟨h s (by simp), fun t ht => h t (by simp [ht])⟩
  · rintro ⟨h1, h2⟩ t ht
    rcases List.mem_cons.1 ht with h | h
    · subst h; exact h1
    · exact h2 t h
theorem snoc_ind {α : Type} {C : List α → Prop} (h0 : C []) (h1 : ∀ p s, C p → C (p ++ [s])) : ∀ p, C p := by
  intro p
  have : ∀ n (p : List α), p.length = n → C p := by
    intro n
    induction n with
    | zero => intro p hp; rw [List.eq_nil_of_length_eq_zero hp]; exact h0
    | succ n ih =>
      intro p hp
      rcases List.eq_nil_or_concat p with rfl | ⟨q, b, rfl⟩
      · simp at hp
      · rw [List.concat_eq_append] at hp ⊢
        exact h1 q b (ih q (by simpa using hp))
  exact this _ p rfl
theorem val_lt {p : List Sw} (h : InR p) : val p + 1 ≤ 626 ^ p.length := by
  induction p using snoc_ind with
  | h0 => simp [val]
  | h1 p s ih =>
    obtain ⟨h1, h2⟩ := inR_snoc.1 h
    have := ih h1
    rw [val_snoc, List.length_append, List.length_singleton, Nat.pow_succ]
    omega
theorem val_ge {p : List Sw} (h : InR p) : 626 ^ p.length ≤ 626 * val p + 1 := by
  induction p using snoc_ind with
  | h0 => simp [val]
  | h1 p s ih =>
    obtain ⟨h1, h2⟩ := inR_snoc.1 h
    have := ih h1
    rw [val_snoc, List.length_append, List.length_singleton, Nat.pow_succ]
    omega
theorem val_short {p q : List Sw} (hp : InR p) (hq : InR q) (h : p.length < q.length) : val p < val q := by
  have h1 := val_lt hp
  have h2 := val_ge hq
  have h3 : 626 ^ (p.length + 1) ≤ 626 ^ q.length := Nat.pow_le_pow_right (by decide) h
  rw [Nat.pow_succ] at h3
  omega
theorem val_inj {p : List Sw} : ∀ {q : List Sw}, InR p → InR q → (∀ s ∈ p, ∃ i, i < 625 ∧ s = decS i) → (∀ s ∈ q, ∃ i, i < 625 ∧ s = decS i) → val p = val q → p = q := by
  induction p using snoc_ind with
  | h0 =>
    intro q _ hq _ _ h
    rcases List.eq_nil_or_concat q with rfl | ⟨q', b, rfl⟩
    · rfl
    · rw [List.concat_eq_append] at h hq
      have := (inR_snoc.1 hq).2
      rw [val_snoc, val_nil] at h
      omega
  | h1 p s ih =>
    intro q hp hq hp2 hq2 h
    obtain ⟨hp1, hs⟩ := inR_snoc.1 hp
    rcases List.eq_nil_or_concat q with rfl | ⟨q', b, rfl⟩
    · rw [val_snoc, val_nil] at h; omega
    · rw [List.concat_eq_append] at h hq hq2 ⊢
      obtain ⟨hq1, hb⟩ := inR_snoc.1 hq
      rw [val_snoc, val_snoc] at h
      have e1 : val p = val q' := by omega
      have e2 : numS s = numS b := by omega
      obtain ⟨i, hi, rfl⟩ := hp2 s (by simp)
      obtain ⟨j, hj, rfl⟩ := hq2 b (by simp)
      rw [num_dec, num_dec] at e2
      obtain rfl : i = j := by omega
      rw [ih hp1 hq1 (fun t ht => hp2 t (by simp [ht])) (fun t ht => hq2 t (by simp [ht])) e1]

/-- Each switch of an image has a number. -/
theorem swB_num {R C : Nat} {m : List (List Int)} (hm : Node R C m) {s : Sw} (h : swB m s = true) : ∃ i, i < 625 ∧ s = decS i := (upS_mem ((sws_mem hm).2 h)).2
theorem goM_inR {R C : Nat} : ∀ (p : List Sw) {m t : List (List Int)}, Node R C m → goM m p = some t → (∀ s ∈ p, ∃ i, i < 625 ∧ s = decS i)
  | [], _, _, _, _ => fun s hs => by simp at hs
  | s :: p, m, t, hm, h => by
    simp only [goM] at h
    split at h
    · rename_i hs
      intro u hu
      rcases List.mem_cons.1 hu with rfl | hu
      · exact swB_num hm hs
      · exact goM_inR p (node_flip hm s) h u hu
    · cases h
theorem inR_of {p : List Sw} (h : ∀ s ∈ p, ∃ i, i < 625 ∧ s = decS i) : InR p := fun s hs => by
  obtain ⟨i, hi, rfl⟩ := h s hs
  rw [num_dec]; omega
/-- A path that comes before all others. -/
def Best (m t : List (List Int)) (p : List Sw) : Prop := goM m p = some t ∧ ∀ q, goM m q = some t → val p ≤ val q
theorem best_one {R C : Nat} {m t : List (List Int)} {p q : List Sw} (hm : Node R C m) (h1 : Best m t p) (h2 : Best m t q) : p = q := by
  have a := goM_inR p hm h1.1; have b := goM_inR q hm h2.1
  exact val_inj (inR_of a) (inR_of b) a b (Nat.le_antisymm (h1.2 q h2.1) (h2.2 p h1.1))
theorem best_len {R C : Nat} {m t : List (List Int)} {p q : List Sw} (hm : Node R C m) (h : Best m t p) (hq : goM m q = some t) : p.length ≤ q.length := by
  refine Nat.le_of_not_lt fun hl => ?_
  have := val_short (inR_of (goM_inR q hm hq)) (inR_of (goM_inR p hm h.1)) hl
  have := h.2 q hq
  omega
/-- The rest of such a path is one too. -/
theorem best_tail {R C : Nat} {m t : List (List Int)} {s : Sw} {p : List Sw} (hm : Node R C m) (h : Best m t (s :: p)) : swB m s = true ∧ Best (flipM m s) t p := by
  obtain ⟨h1, h2⟩ := h
  simp only [goM] at h1
  split at h1
  · rename_i hs
    refine ⟨hs, h1, fun q hq => ?_⟩
    have hn := node_flip hm s
    have hg : goM m (s :: q) = some t := by simp only [goM, hs, if_true]; exact hq
    have h3 := h2 _ hg
    have ip := inR_of (goM_inR p hn h1); have iq := inR_of (goM_inR q hn hq)
    rcases Nat.lt_trichotomy p.length q.length with hl | hl | hl
    · exact Nat.le_of_lt (val_short ip iq hl)
    · rw [val_cons, val_cons, hl] at h3; omega
    · exfalso
      have i1 := inR_of (goM_inR (s :: q) hm hg)
      have i2 := inR_of (goM_inR (s :: p) hm (by simp only [goM, hs, if_true]; exact h1))
      have := val_short i1 i2 (by simp only [List.length_cons]; omega)
      omega
  · cases h1
theorem best_nil (m : List (List Int)) : Best m m [] := ⟨rfl, fun _ _ => Nat.zero_le _⟩
end Go.Proofs.YtcliiefedmiokaaGreat
/-
  A search in breadth over images and switches: the first path to each image comes before all others.
-/
namespace Go.Proofs.YtcliiefedmiokaaGreat

theorem getD_snoc_lt {α : Type} (l : List α) (x d : α) {i : Nat} (h : i < l.length) : (l ++ [x]).getD i d = l.getD i d := by
  simp [List.getD_eq_getElem?_getD, List.getElem?_append_left h]
theorem getD_snoc_eq {α : Type} (l : List α) (x d : α) : (l ++ [x]).getD l.length d = x := by simp [List.getD_eq_getElem?_getD]
theorem getD_mem {α : Type} {l : List α} {d : α} {i : Nat} (h : i < l.length) : l.getD i d ∈ l := by
  rw [List.getD_eq_getElem?_getD, List.getElem?_eq_getElem h]; exact List.getElem_mem h
theorem mem_getD {α : Type} {l : List α} (d : α) {x : α} (h : x ∈ l) : ∃ i, i < l.length ∧ l.getD i d = x := by
  obtain ⟨i, hi, e⟩ := List.getElem_of_mem h
  exact ⟨i, hi, by rw [List.getD_eq_getElem?_getD, List.getElem?_eq_getElem hi]; exact e⟩
theorem val_pre (p q : List Sw) : val p ≤ val (p ++ q) := by
  rw [val_append]
  have : 626 ^ 0 ≤ 626 ^ q.length := Nat.pow_le_pow_right (by decide) (Nat.zero_le _)
  rw [Nat.pow_zero] at this
  have h2 := Nat.mul_le_mul_left (val p) this
  omega

/-- Image a is under way, its switches up to number K are done. -/
structure Bfs (m : List (List Int)) (L : List (List (List Int))) (W : List (List Sw)) (a K : Nat) : Prop where
  len : W.length = L.length
  pos : 0 < L.length
  head : L.getD 0 [] = m
  le : a ≤ L.length
  best : ∀ i, i < L.length → Best m (L.getD i []) (W.getD i [])
  sorted : ∀ i j, i < j → j < L.length → val (W.getD i []) < val (W.getD j [])
  pend : a < L.length → ∀ i, i < L.length → val (W.getD i []) ≤ val (W.getD a []) * 626 + K
  done : ∀ i, i < a → ∀ s, swB (L.getD i []) s = true → flipM (L.getD i []) s ∈ L
  half : a < L.length → ∀ s, swB (L.getD a []) s = true → numS s ≤ K → flipM (L.getD a []) s ∈ L
  tree : ∀ i, i < L.length → (W.getD i [] = [] ∧ L.getD i [] = m) ∨ ∃ j s, j < i ∧ W.getD i [] = W.getD j [] ++ [s] ∧ swB (L.getD j []) s = true ∧ L.getD i [] = flipM (L.getD j []) s

theorem bfs_start (m : List (List Int)) : Bfs m [m] [[]] 0 0 := by
  have h0 : ∀ i, i < [m].length → i = 0 := fun i hi => by simp at hi; exact hi
  refine ⟨rfl, by simp, rfl, by simp, fun i hi => ?_, fun i j hij hj => ?_, fun _ i hi => ?_, fun i hi => by omega, fun _ s _ hs => ?_, fun i hi => ?_⟩
  · obtain rfl := h0 i hi; exact best_nil m
  · have := h0 j hj; omega
  · obtain rfl := h0 i hi; simp [val]
  · unfold numS at hs; omega
  · obtain rfl := h0 i hi; exact .inl ⟨rfl, rfl⟩
theorem exit_of {m : List (List Int)} {L : List (List (List Int))} (hm : m ∈ L) : ∀ (q : List Sw) (x : List (List Int)), goM m q = some x → x ∉ L → ∃ q1 s q2 y, q = q1 ++ s :: q2 ∧ goM m q1 = some y ∧ y ∈ L ∧ swB y s = true ∧ flipM y s ∉ L := by
  intro q
  induction q using snoc_ind with
  | h0 => intro x h hx; cases h; exact absurd hm hx
  | h1 p s ih =>
    intro x h hx
    obtain ⟨t, h1, h2, rfl⟩ := goM_unsnoc h
    by_cases ht : t ∈ L
    · exact ⟨p, s, [], t, rfl, h1, ht, h2, hx⟩
    · obtain ⟨q1, s1, q2, y, rfl, g1, g2, g3, g4⟩ := ih t h1 ht
      exact ⟨q1, s1, q2 ++ [s], y, by simp, g1, g2, g3, g4⟩
theorem bfs_node {R C : Nat} {m : List (List Int)} {L : List (List (List Int))} {W : List (List Sw)} {a K : Nat} (hm : Node R C m) (h : Bfs m L W a K) {i : Nat} (hi : i < L.length) : Node R C (L.getD i []) := goM_node hm (h.best i hi).1
theorem bfs_head {m : List (List Int)} {L : List (List (List Int))} {W : List (List Sw)} {a K : Nat} (h : Bfs m L W a K) : m ∈ L := by
  have := getD_mem (d := []) h.pos
  rwa [h.head] at this
set_option maxRecDepth 100000 in
theorem bfs_known {m : List (List Int)} {L : List (List (List Int))} {W : List (List Sw)} {a K : Nat} {s : Sw} {R C : Nat} (hm : Node R C m) (h : Bfs m L W a K) (ha : a < L.length) (hs : swB (L.getD a []) s = true) (hK : K ≤ numS s)
    (hall : ∀ s', swB (L.getD a []) s' = true → numS s' < numS s → numS s' ≤ K) (hx : flipM (L.getD a []) s ∈ L) : Bfs m L W a (numS s) := by
  refine ⟨h.len, h.pos, h.head, h.le, h.best, h.sorted, fun h1 i hi => ?_, h.done, fun h1 s' hs' hn => ?_, h.tree⟩
  · have := h.pend h1 i hi; omega
  · by_cases e : numS s' < numS s
    · exact h.half h1 s' hs' (hall s' hs' e)
    · obtain ⟨i, hi, rfl⟩ := swB_num (bfs_node hm h ha) hs
      obtain ⟨j, hj, rfl⟩ := swB_num (bfs_node hm h ha) hs'
      rw [num_dec, num_dec] at hn e
      obtain rfl : i = j := by omega
      exact hx
set_option maxRecDepth 100000 in
theorem bfs_new {m : List (List Int)} {L : List (List (List Int))} {W : List (List Sw)} {a K : Nat} {s : Sw} {R C : Nat} (hm : Node R C m) (h : Bfs m L W a K) (ha : a < L.length) (hs : swB (L.getD a []) s = true) (hK : K ≤ numS s)
    (hall : ∀ s', swB (L.getD a []) s' = true → numS s' < numS s → numS s' ≤ K) (hx : flipM (L.getD a []) s ∉ L) : Bfs m (L ++ [flipM (L.getD a []) s]) (W ++ [W.getD a [] ++ [s]]) a (numS s) := by
  have haW : a < W.length := by rw [h.len]; exact ha
  have hnum : ∀ j, j < L.length → ∀ s', swB (L.getD j []) s' = true → 1 ≤ numS s' ∧ numS s' ≤ 625 := fun j hj s' hs' => by
    obtain ⟨i, hi, rfl⟩ := swB_num (bfs_node hm h hj) hs'
    rw [num_dec]; omega
  have hKs : K < numS s := by
    refine Nat.lt_of_le_of_ne hK fun e => hx (h.half ha s hs (by omega))
  have hn := hnum a ha s hs
  have hval : val (W.getD a [] ++ [s]) = val (W.getD a []) * 626 + numS s := val_snoc _ _
  have hb := h.best a ha
  have hbest : Best m (flipM (L.getD a []) s) (W.getD a [] ++ [s]) := by
    refine ⟨goM_snoc hb.1 hs, fun q hq => ?_⟩
    obtain ⟨q1, s1, q2, y, rfl, g1, g2, g3, g4⟩ := exit_of (bfs_head h) q _ hq hx
    obtain ⟨j, hj, rfl⟩ := mem_getD [] g2
    have e1 : val (q1 ++ [s1]) ≤ val (q1 ++ s1 :: q2) := by
      have := val_pre (q1 ++ [s1]) q2
      simpa using this
    rw [val_snoc] at e1
    have e2 := (h.best j hj).2 q1 g1
    have e3 := hnum j hj s1 g3
    rw [hval]
    rcases Nat.lt_trichotomy j a with hja | rfl | hja
    · exact absurd (h.done j hja s1 g3) g4
    · by_cases e4 : numS s1 < numS s
      · exact absurd (h.half ha s1 g3 (hall s1 g3 e4)) g4
      · omega
    · have := h.sorted a j hja hj
      omega
  refine ⟨by simp [h.len], by simp, ?_, by simp only [List.length_append, List.length_singleton]; omega, fun i hi => ?_, fun i j hij hj => ?_, fun _ i hi => ?_, fun i hi s' hs' => ?_, fun _ s' hs' hn' => ?_, fun i hi => ?_⟩
  · rw [getD_snoc_lt _ _ _ h.pos]; exact h.head
  · simp only [List.length_append, List.length_singleton] at hi
    by_cases e : i < L.length
    · rw [getD_snoc_lt _ _ _ e, getD_snoc_lt _ _ _ (by rw [h.len]; exact e)]; exact h.best i e
    · obtain rfl : i = L.length := by omega
      have e1 := getD_snoc_eq W (W.getD a [] ++ [s]) []
      rw [h.len] at e1
      rw [getD_snoc_eq, e1]; exact hbest
  · simp only [List.length_append, List.length_singleton] at hj
    rw [getD_snoc_lt W _ _ (by rw [h.len]; omega)]
    by_cases e : j < L.length
    · rw [getD_snoc_lt _ _ _ (by rw [h.len]; exact e)]; exact h.sorted i j hij e
    · obtain rfl : j = L.length := by omega
      have e1 := getD_snoc_eq W (W.getD a [] ++ [s]) []
      rw [h.len] at e1
      rw [e1, hval]
      have := h.pend ha i hij
      omega
  · simp only [List.length_append, List.length_singleton] at hi
    rw [getD_snoc_lt W _ _ haW]
    by_cases e : i < L.length
    · rw [getD_snoc_lt _ _ _ (by rw [h.len]; exact e)]
      have := h.pend ha i e
      omega
    · obtain rfl : i = L.length := by omega
      have e1 := getD_snoc_eq W (W.getD a [] ++ [s]) []
      rw [h.len] at e1
      rw [e1, hval]; exact Nat.le_refl _
  · rw [getD_snoc_lt _ _ _ (by omega)] at hs' ⊢
    exact List.mem_append_left _ (h.done i hi s' hs')
  · rw [getD_snoc_lt _ _ _ ha] at hs' ⊢
    by_cases e : numS s' < numS s
    · exact List.mem_append_left _ (h.half ha s' hs' (hall s' hs' e))
    · obtain ⟨i, hi, rfl⟩ := swB_num (bfs_node hm h ha) hs
      obtain ⟨j, hj, rfl⟩ := swB_num (bfs_node hm h ha) hs'
      rw [num_dec, num_dec] at hn' e
      obtain rfl : i = j := by omega
      exact List.mem_append_right _ (List.mem_singleton.2 rfl)
  · simp only [List.length_append, List.length_singleton] at hi
    by_cases e : i < L.length
    · rw [getD_snoc_lt _ _ _ e, getD_snoc_lt _ _ _ (by rw [h.len]; exact e)]
      rcases h.tree i e with h1 | ⟨j, t, hj, h1, h2, h3⟩
      · exact .inl h1
      · exact .inr ⟨j, t, hj, by rw [getD_snoc_lt _ _ _ (by rw [h.len]; omega)]; exact h1, by rw [getD_snoc_lt _ _ _ (by omega)]; exact h2, by rw [getD_snoc_lt _ _ _ (by omega)]; exact h3⟩
    · obtain rfl : i = L.length := by omega
      have e1 := getD_snoc_eq W (W.getD a [] ++ [s]) []
      rw [h.len] at e1
      rw [getD_snoc_eq, e1]
      exact .inr ⟨a, s, ha, by rw [getD_snoc_lt _ _ _ haW], by rw [getD_snoc_lt _ _ _ ha]; exact hs, by rw [getD_snoc_lt _ _ _ ha]⟩
set_option maxRecDepth 100000 in
theorem bfs_next {m : List (List Int)} {L : List (List (List Int))} {W : List (List Sw)} {a K : Nat} (h : Bfs m L W a K) (ha : a < L.length) (hK : K ≤ 625) (hall : ∀ s, swB (L.getD a []) s = true → numS s ≤ K) : Bfs m L W (a + 1) 0 := by
  refine ⟨h.len, h.pos, h.head, by omega, h.best, h.sorted, fun h1 i hi => ?_, fun i hi s hs => ?_, fun _ s _ hs => ?_, h.tree⟩
  · have := h.pend ha i hi
    have := h.sorted a (a + 1) (Nat.lt_succ_self _) h1
    omega
  · by_cases e : i < a
    · exact h.done i e s hs
    · obtain rfl : i = a := by omega
      exact h.half ha s hs (hall s hs)
  · unfold numS at hs; omega
theorem bfs_all {m t : List (List Int)} {L : List (List (List Int))} {W : List (List Sw)} {K : Nat} (h : Bfs m L W L.length K) : ∀ q : List Sw, goM m q = some t → t ∈ L := by
  intro q hq
  refine Classical.byContradiction fun hx => ?_
  obtain ⟨q1, s1, q2, y, rfl, g1, g2, g3, g4⟩ := exit_of (bfs_head h) q _ hq hx
  obtain ⟨j, hj, rfl⟩ := mem_getD [] g2
  exact g4 (h.done j hj s1 g3)
theorem bfs_inj {m : List (List Int)} {L : List (List (List Int))} {W : List (List Sw)} {a K : Nat} {R C : Nat} (hm : Node R C m) (h : Bfs m L W a K) {i j : Nat} (hi : i < L.length) (hj : j < L.length) (e : L.getD i [] = L.getD j []) : i = j := by
  have h1 := h.best i hi
  rw [e] at h1
  have h2 := best_one hm h1 (h.best j hj)
  rcases Nat.lt_trichotomy i j with h3 | h3 | h3
  · have := h.sorted i j h3 hj; rw [h2] at this; omega
  · exact h3
  · have := h.sorted j i h3 hi; rw [h2] at this; omega

/-- How many there can be. -/
def bitsN : List Int → Nat
  | [] => 0
  | x :: l => (if x = 1 then 1 else 0) + 2 * bitsN l
theorem bits_lt : ∀ l : List Int, bitsN l < 2 ^ l.length
  | [] => by simp [bitsN]
  | x :: l => by
    have := bits_lt l
    simp only [bitsN, List.length_cons, Nat.pow_succ]
    split <;> omega
theorem bits_inj : ∀ {l k : List Int}, l.length = k.length → (∀ x ∈ l, x = 0 ∨ x = 1) → (∀ x ∈ k, x = 0 ∨ x = 1) → bitsN l = bitsN k → l = k
  | [], [], _, _, _, _ => rfl
  | [], _ :: _, h, _, _, _ => by simp at h
  | _ :: _, [], h, _, _, _ => by simp at h
  | x :: l, y :: k, h, hl, hk, e => by
    have hx := hl x (by simp); have hy := hk y (by simp)
    simp only [bitsN] at e
    have e1 : x = y := by
      rcases hx with rfl | rfl <;> rcases hy with rfl | rfl <;> simp at e ⊢ <;> omega
    subst e1
    rw [bits_inj (l := l) (k := k) (by simpa using h) (fun z hz => hl z (by simp [hz])) (fun z hz => hk z (by simp [hz])) (by omega)]
theorem len_split {α : Type} (p : α → Bool) : ∀ l : List α, l.length = (l.filter p).length + (l.filter fun x => !p x).length
  | [] => rfl
  | x :: l => by
    have := len_split p l
    simp only [List.filter_cons, List.length_cons]
    cases p x <;> simp <;> omega
theorem nodup_len : ∀ (N : Nat) (l : List Nat), l.Nodup → (∀ x ∈ l, x < N) → l.length ≤ N
  | 0, l, _, h => by
    cases l with
    | nil => exact Nat.le_refl _
    | cons x l => exact absurd (h x (by simp)) (Nat.not_lt_zero _)
  | N + 1, l, hn, h => by
    have h1 := nodup_len N (l.filter fun x => decide (x < N)) (hn.filter _) (fun x hx => by simpa using (List.mem_filter.1 hx).2)
    have h2 : (l.filter fun x => !decide (x < N)).length ≤ 1 := by
      have hnd : (l.filter fun x => !decide (x < N)).Nodup := hn.filter _
      have hall : ∀ x ∈ l.filter (fun x => !decide (x < N)), x = N := fun x hx => by
        obtain ⟨a, b⟩ := List.mem_filter.1 hx
        have := h x a
        simp at b; omega
      match hq : l.filter (fun x => !decide (x < N)) with
      | [] => simp
      | [_] => simp
      | x :: y :: r =>
        rw [hq] at hnd hall
        have e1 := hall x (by simp); have e2 := hall y (by simp)
        rw [e1, e2] at hnd
        simp at hnd
    have h3 := len_split (fun x => decide (x < N)) l
    omega
theorem node_flat {R C : Nat} {m : List (List Int)} (h : Node R C m) : m.flatten.length = R * C ∧ ∀ x ∈ m.flatten, x = 0 ∨ x = 1 := by
  obtain ⟨f, rfl, hI⟩ := h
  constructor
  · have := cells_mkM R C f
    unfold cellsM at this
    rw [List.length_flatten]; exact this
  · intro x hx
    obtain ⟨r, hr, hx⟩ := List.mem_flatten.1 hx
    unfold mkM at hr
    obtain ⟨y, hy, rfl⟩ := List.mem_map.1 hr
    unfold rowF at hx
    obtain ⟨z, hz, rfl⟩ := List.mem_map.1 hx
    exact hI.cell y z (List.mem_range.1 hy) (List.mem_range.1 hz)
theorem flat_inj {C : Nat} (hC : 0 < C) : ∀ {a b : List (List Int)}, (∀ r ∈ a, r.length = C) → (∀ r ∈ b, r.length = C) → a.flatten = b.flatten → a = b
  | [], [], _, _, _ => rfl
  | [], r :: b, _, hb, h => by
    have h1 := congrArg List.length h
    have h2 := hb r (by simp)
    simp only [List.flatten_nil, List.length_nil, List.flatten_cons, List.length_append] at h1
    omega
  | r :: a, [], ha, _, h => by
    have h1 := congrArg List.length h
    have h2 := ha r (by simp)
    simp only [List.flatten_nil, List.length_nil, List.flatten_cons, List.length_append] at h1
    omega
  | r :: a, s :: b, ha, hb, h => by
    simp only [List.flatten_cons] at h
    obtain ⟨e1, e2⟩ := List.append_inj h (by rw [ha r (by simp), hb s (by simp)])
    rw [e1, flat_inj hC (fun q hq => ha q (by simp [hq])) (fun q hq => hb q (by simp [hq])) e2]
theorem node_inj {R C : Nat} {m t : List (List Int)} (hm : Node R C m) (ht : Node R C t) (e : bitsN m.flatten = bitsN t.flatten) : m = t := by
  obtain ⟨a1, a2⟩ := node_flat hm; obtain ⟨b1, b2⟩ := node_flat ht
  have hf := bits_inj (by rw [a1, b1]) a2 b2 e
  obtain ⟨f, rfl, hI⟩ := hm
  obtain ⟨g, rfl, -⟩ := ht
  have hr : ∀ (h : Nat → Nat → Int), ∀ r ∈ mkM R C h, r.length = C := fun h r hr => by
    unfold mkM at hr
    obtain ⟨y, -, rfl⟩ := List.mem_map.1 hr
    exact rowF_len _ _
  exact flat_inj (by have := hI.c1; omega) (hr f) (hr g) hf
theorem bfs_size {m : List (List Int)} {L : List (List (List Int))} {W : List (List Sw)} {a K : Nat} {R C : Nat} (hm : Node R C m) (hR : R ≤ 4) (hC : C ≤ 4) (h : Bfs m L W a K) : L.length ≤ 65536 := by
  have h1 := nodup_len 65536 ((List.range L.length).map fun i => bitsN (L.getD i []).flatten) ?_ ?_
  · simpa using h1
  · rw [List.nodup_iff_pairwise_ne, List.pairwise_map]
    refine List.Pairwise.imp_of_mem ?_ (List.pairwise_lt_range (n := L.length))
    intro i j hi hj hij e
    have hi := List.mem_range.1 hi; have hj := List.mem_range.1 hj
    have := bfs_inj hm h hi hj (node_inj (bfs_node hm h hi) (bfs_node hm h hj) e)
    omega
  · intro x hx
    obtain ⟨i, hi, rfl⟩ := List.mem_map.1 hx
    have hi := List.mem_range.1 hi
    have h1 := bits_lt (L.getD i []).flatten
    rw [(node_flat (bfs_node hm h hi)).1] at h1
    have h2 : R * C ≤ 4 * 4 := Nat.mul_le_mul hR hC
    exact Nat.lt_of_lt_of_le h1 (Nat.pow_le_pow_right (by decide) h2)
end Go.Proofs.YtcliiefedmiokaaGreat
