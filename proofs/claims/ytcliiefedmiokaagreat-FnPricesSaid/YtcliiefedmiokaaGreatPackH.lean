/-
  Texts of this claim, one behind the other: Pen, OwnIm, PenI, Cur, Que.
-/
import Derived.Test.YtcliiefedmiokaaGreatPackG
import Derived.Test.YtcliiefedmiokaaGreatPackA
import Derived.OrdersIn
import Derived.TacticsIn
import Derived.Laws.BitsLemmas
import Derived.Deep.RegionWith
import Derived.IntWalk
import Derived.Test.YtcliiefedmiokaaGreatPackD
import Derived.ArgAppend
/-
  A region that draws its order, one of whose operations (pen) waits for all others but the last: behind it the world need not be what it was.
-/
namespace Go.Proofs.YtcliiefedmiokaaGreat
open Go.RowKit

section
variable {P : Program} {ops : Array Oper} {Q : Exit → Act → World → Prop}

/-- Some operation that may come up behind i reads what j has left, and j does not wait for i. -/
def needP (l : List Oper) (i j : Nat) : Bool := needB l i j && !anc l l.length j i
def needPL (l : List Oper) (i : Nat) : List Nat := (needL l i).filter fun j => !anc l l.length j i
theorem needPL_of {l : List Oper} {i j : Nat} (h : needP l i j = true) : j ∈ needPL l i := by
  unfold needP at h
  rw [Bool.and_eq_true] at h
  exact List.mem_filter.2 ⟨needL_of h.1, h.2⟩
theorem needP_of {l : List Oper} {i j : Nat} (h : needB l i j = true) (ha : anc l l.length j i = false) : needP l i j = true := by
  unfold needP; rw [h, ha]; rfl

/-- The frame and the world while the region runs: what is listed and still read holds in its slot. -/
structure MidP (ops : Array Oper) (pen : Nat) (a0 : Act) (S : World → Prop) (F : Nat → Value → World → Prop) (listed : Array Bool) (a : Act) (w : World) : Prop where
  size : listed.size = ops.size
  tmps : a.tmps.size = a0.tmps.size
  defers : a.defers = a0.defers
  out : ∀ t, outside ops.pop t = true → a.tmps.getD t undef = a0.tmps.getD t undef
  world : listed.getD pen false = false → S w
  held : ∀ (i : Nat) (o : Oper) (d : Tmp), ops[i]? = some o → o.dst = some d → listed.getD i false = true → (∃ k ok, ops[k]? = some ok ∧ listed.getD k true = false ∧ datT ok i = true) → F i (a.tmps.getD d undef) w

def EachP (P : Program) (ops : Array Oper) (pen : Nat) (Q : Exit → Act → World → Prop) (a0 : Act) (S : World → Prop) (F : Nat → Value → World → Prop) (i : Nat) (o : Oper) : Prop :=
  ∀ (a : Act) (w : World), a.tmps.size = a0.tmps.size → a.defers = a0.defers → (∀ t, outside ops.pop t = true → a.tmps.getD t undef = a0.tmps.getD t undef) → S w →
    (∀ (j : Nat) (oe : Oper) (d : Tmp), datT o j = true → ops[j]? = some oe → oe.dst = some d → F j (a.tmps.getD d undef) w) →
    ∀ K : Act → World → Prop, (∀ v w', (i ≠ pen → S w') → (∀ j, needP ops.toList i j = true → ∀ u, F j u w → F j u w') → F i v w' → K (a.put o.dst v) w') → wpOp P ops Q i K a w

theorem wpAny_pen {pen : Nat} {a0 : Act} {S : World → Prop} {F : Nat → Value → World → Prop} {last : Oper} (hpen : ∀ i, i < ops.size - 1 → i ≠ pen → anc ops.toList ops.toList.length pen i = true) (hpl : pen < ops.size) (ho : orderly .any a0.tmps.size 0 [] ops.toList = true) (ht : tails .any ops.toList = true) (hl : ops[ops.size - 1]? = some last)
    (hop : ∀ (i : Nat) (o : Oper), ops[i]? = some o → i < ops.size - 1 → EachP P ops pen Q a0 S F i o)
    (hlast : ∀ (a : Act) (w : World), a.tmps.size = a0.tmps.size → a.defers = a0.defers → (∀ t, outside ops.pop t = true → a.tmps.getD t undef = a0.tmps.getD t undef) →
      (∀ (i : Nat) (o : Oper) (d : Tmp), ops[i]? = some o → i < ops.size - 1 → o.dst = some d → datT last i = true → F i (a.tmps.getD d undef) w) → ∀ K : Act → World → Prop, (∀ a' w', Q .normal a' w' → K a' w') → wpOp P ops Q (ops.size - 1) K a w) :
    ∀ (fuel : Nat) (listed : Array Bool) (a : Act) (w : World), MidP ops pen a0 S F listed a w → Closed .any ops listed → listed.getD (ops.size - 1) true = false → unl listed ops.size ≤ fuel → wpAny P .any ops Q fuel listed a w := by
  have hlt0 : ops.size - 1 < ops.size := (Array.getElem?_eq_some_iff.1 hl).1
  have hon : ∀ (i : Nat) (o : Oper), ops[i]? = some o → ∀ e ∈ o.after, Region.binds .any e = true → e.on < i := fun i o hi e he hbd => by
    have := orderly_on ops.toList 0 [] ho i o (by simpa using hi) e he hbd; omega
  have hdst : ∀ (i : Nat) (o : Oper) (d : Tmp), ops[i]? = some o → o.dst = some d → d < a0.tmps.size := fun i o d hi hd => (orderly_dst ops.toList 0 [] ho i o d (by simpa using hi) hd).1
  have hone : ∀ (i : Nat) (o : Oper) (d : Tmp), ops[i]? = some o → o.dst = some d → ∀ (j : Nat) (o' : Oper), ops[j]? = some o' → i ≠ j → o'.dst ≠ some d := fun i o d hi hd j o' hj hij e => by
    rcases Nat.lt_or_gt_of_ne hij with h | h
    · exact (orderly_dst ops.toList 0 [] ho i o d (by simpa using hi) hd).2.2 j o' (by simpa using hj) h e
    · exact (orderly_dst ops.toList 0 [] ho j o' d (by simpa using hj) e).2.2 i o (by simpa using hi) h hd
  intro fuel
  induction fuel with
  | zero =>
    intro listed a w hm hcl hul hf
    exfalso
    have := unl_set listed _ hul ops.size
    rw [if_pos hlt0] at this
    omega
  | succ fuel ih =>
    intro listed a w hm hcl hul hf
    refine ⟨fun hr => ?_, fun i hi => ?_⟩
    · exfalso
      have h1 := ready_none hm.size hon hr _ hlt0
      have hlt : ops.size - 1 < listed.size := by have := hm.size; omega
      simp [hlt] at hul h1
      rw [h1] at hul; cases hul
    obtain ⟨hul2, o, ho', hall⟩ := mem_ready.1 hi
    have hlt : i < ops.size := (Array.getElem?_eq_some_iff.1 ho').1
    by_cases e : i = ops.size - 1
    · subst e
      rw [hl] at ho'
      obtain rfl := Option.some.inj ho'
      have hab := fun j hj => all_before ht hcl hl hall _ j (Nat.le_refl _) hj
      refine hlast a w hm.tmps hm.defers hm.out (fun j oj d hj hjl hd hdep => hm.held j oj d hj hd (hab j hjl) ⟨_, _, hl, hul2, hdep⟩) _ fun a' w' hq => ?_
      have hrd : Region.ready .any ops (listed.setIfInBounds (ops.size - 1) true) = [] := by
        rw [List.eq_nil_iff_forall_not_mem]
        intro j hj
        obtain ⟨hl', o', ho'', -⟩ := mem_ready.1 hj
        have hj' : j < ops.size := (Array.getElem?_eq_some_iff.1 ho'').1
        have hls : ops.size - 1 < listed.size := by have := hm.size; omega
        by_cases ej : ops.size - 1 = j
        · subst ej; simp [hls] at hl'
        · rw [getD_set_ne true ej] at hl'
          have h1 := hab j (by omega)
          have hjs : j < listed.size := by have := hm.size; omega
          simp [hjs] at hl' h1
          rw [h1] at hl'; cases hl'
      cases fuel with
      | zero => exact ⟨hrd, hq⟩
      | succ fuel => exact ⟨fun _ => hq, fun j hj => by rw [hrd] at hj; cases hj⟩
    · have hpu : listed.getD pen false = false := by
        by_cases ep : i = pen
        · subst ep
          have hps : i < listed.size := by have := hm.size; omega
          simp [hps] at hul2 ⊢; exact hul2
        · cases h : listed.getD pen false with
          | false => rfl
          | true =>
            exfalso
            have h1 := anc_listed hcl _ pen i ops[pen] (Array.getElem?_eq_getElem hpl) (fun e he hbe => hcl pen ops[pen] (Array.getElem?_eq_getElem hpl) h e he hbe) (hpen i (by omega) ep)
            have his : i < listed.size := by have := hm.size; omega
            simp [his] at hul2 h1
            rw [h1] at hul2; cases hul2
      refine hop i o ho' (by omega) a w hm.tmps hm.defers hm.out (hm.world hpu) (fun j oe d hdj hoe hd => by
        obtain ⟨e, he, rfl, hb⟩ := depT_iff.1 (datT_dep hdj)
        exact hm.held e.on oe d hoe hd (hall e he hb) ⟨i, o, ho', hul2, hdj⟩) _ fun v w' hS hst hF => ?_
      have hls : listed.size = ops.size := hm.size
      refine ih _ _ _ ⟨by simp [hm.size], ?_, ?_, fun t ht => ?_, fun hpn => hS (fun ep => by subst ep; simp [show i < listed.size by omega] at hpn), fun j oj d hj hd hlj hcons => ?_⟩ (fun k ok hk hlk e' he' hb' => ?_) ?_ ?_
      · cases o.dst <;> simp [Act.put, hm.tmps]
      · cases o.dst <;> simp [Act.put, hm.defers]
      · rw [← hm.out t ht]
        cases hd : o.dst with
        | none => rfl
        | some d =>
          have hne : d ≠ t := by
            intro e; subst e
            unfold outside at ht
            rw [Array.all_eq_true_iff_forall_mem] at ht
            have := ht o (Array.mem_of_getElem? (i := i) (by rw [Array.getElem?_pop, if_pos (by omega)]; exact ho'))
            rw [hd] at this; simp at this
          simp [Act.put, Array.getElem?_setIfInBounds_ne hne]
      · by_cases e : i = j
        · subst e
          rw [ho'] at hj
          obtain rfl := Option.some.inj hj
          have hdl : d < a.tmps.size := by rw [hm.tmps]; exact hdst i o d ho' hd
          have : (a.put o.dst v).tmps.getD d undef = v := by rw [hd]; simp [Act.put, hdl]
          rw [this]; exact hF
        · have h1 : listed.getD j false = true := by rw [getD_set_ne false e] at hlj; exact hlj
          obtain ⟨k, ok, hk, huk, hdk⟩ := hcons
          have hki : i ≠ k := by
            intro e'; subst e'
            simp [show i < listed.size by omega] at huk
          have huk' : listed.getD k true = false := by rw [getD_set_ne true hki] at huk; exact huk
          have hanc : anc ops.toList ops.toList.length i k = false := by
            cases h : anc ops.toList ops.toList.length i k with
            | false => rfl
            | true =>
              have := anc_listed hcl _ i k o ho' hall h
              have hks : k < listed.size := by rw [hls]; exact (Array.getElem?_eq_some_iff.1 hk).1
              simp [hks] at this huk'
              rw [this] at huk'; cases huk'
          have h2 := hm.held j oj d hj hd h1 ⟨k, ok, hk, huk', hdk⟩
          have h3 : (a.put o.dst v).tmps.getD d undef = a.tmps.getD d undef := by
            cases hd' : o.dst with
            | none => rfl
            | some d' =>
              have hne : d' ≠ d := fun e' => hone j oj d hj hd i o ho' (Ne.symm e) (by rw [hd', e'])
              simp [Act.put, Array.getElem?_setIfInBounds_ne hne]
          have hji : anc ops.toList ops.toList.length j i = false := by
            cases h : anc ops.toList ops.toList.length j i with
            | false => rfl
            | true =>
              exfalso
              have := anc_listed hcl _ j i oj hj (fun e he hbe => hcl j oj hj h1 e he hbe) h
              have his : i < listed.size := by omega
              simp [his] at hul2 this
              rw [this] at hul2; cases hul2
          rw [h3]; exact hst j (needP_of (needB_of (Ne.symm e) (by simpa using hk) (Ne.symm hki) hanc hdk) hji) _ h2
      · by_cases ek : i = k
        · subst ek
          rw [ho'] at hk
          obtain rfl := Option.some.inj hk
          have h1 := hall e' he' hb'
          have h2 : i ≠ e'.on := by have := hon i o ho' e' he' hb'; omega
          rw [getD_set_ne false h2]; exact h1
        · rw [getD_set_ne false ek] at hlk
          have h1 := hcl k ok hk hlk e' he' hb'
          by_cases e2 : i = e'.on
          · rw [← e2]; simp [show i < listed.size by omega]
          · rw [getD_set_ne false e2]; exact h1
      · rw [getD_set_ne true e]; exact hul
      · have := unl_set listed i hul2 ops.size
        rw [if_pos hlt] at this; omega

/-- What is asked of one operation: it keeps what may still be read; operation pen need not keep the world. -/
def Obp (P : Program) (Q : Exit → Act → World → Prop) (l : List Oper) (pen : Nat) (base : List (Tmp × Value)) (dsts : List (Option Tmp)) (S : World → Prop) (fs : List FactP) (i : Nat) (o : Oper) : Prop :=
  ∀ (a : Act) (w : World), S w → (∀ t v, base.lookup t = some v → a.tmps.getD t undef = v) →
    (∀ j d, dsts[j]? = some (some d) → datT o j = true → factP fs j (a.tmps.getD d undef) w) →
    ∀ K : Act → World → Prop, (∀ v w', (i ≠ pen → S w') → (∀ j, needP l i j = true → ∀ u, factP fs j u w → factP fs j u w') → factP fs i v w' → K (a.put o.dst v) w') →
      (o.guard = none ∨ ∃ j d, o.guard = some (j, true) ∧ dsts[j]? = some (some d) ∧ a.tmps.getD d undef = .bool true) ∧ o.wp P a w K Q
theorem obp_of {l : List Oper} {pen : Nat} {base : List (Tmp × Value)} {dsts : List (Option Tmp)} {S : World → Prop} {fs : List FactP} {i : Nat} {o : Oper} (h : Obn P Q l base dsts S fs i o) : Obp P Q l pen base dsts S fs i o :=
  fun a w h1 h2 h3 K hK => h a w h1 h2 h3 K fun v w' g1 g2 g3 => hK v w' (fun _ => g1) (fun j hj => g2 j (by unfold needP at hj; rw [Bool.and_eq_true] at hj; exact hj.1)) g3

theorem wp_region_pen {id : Nat} {a : Act} {w : World} {S : World → Prop} (pen : Nat) (fs : List FactP) (base : List (Tmp × Value)) (dsts : List (Option Tmp)) (last : Oper) (k : Nat)
    (hpb : ((List.range (ops.size - 1)).all fun i => i == pen || anc ops.toList ops.toList.length pen i) = true) (hpl : pen < ops.size) (hm : P.follows .mixedOrders = true) (hk : ops.size = k + 1) (hlk : ops[k]? = some last) (ho : orderly .any a.tmps.size 0 [] ops.toList = true) (ht : tails .any ops.toList = true) (hd : ops.toList.map (·.dst) = dsts)
    (hbo : base.all (fun p => outside ops.pop p.1) = true) (hb : ∀ t v, base.lookup t = some v → a.tmps.getD t undef = v)
    (hS : S w.drew) (hob : AllOps (Obp P Q ops.toList pen base dsts S fs) 0 ops.toList.dropLast) (hgl : last.guard = none)
    (hlast : ∀ (a' : Act) (w' : World), a'.tmps.size = a.tmps.size → a'.defers = a.defers → (∀ t, outside ops.pop t = true → a'.tmps.getD t undef = a.tmps.getD t undef) →
      (∀ j d, dsts[j]? = some (some d) → j < k → datT last j = true → factP fs j (a'.tmps.getD d undef) w') → ∀ K : Act → World → Prop, (∀ v w2, Q .normal (a'.put last.dst v) w2 → K (a'.put last.dst v) w2) → last.wp P a' w' K Q) :
    (Code.region id ops true).wp P Q a w := by
  have hl : ops[ops.size - 1]? = some last := by rw [hk]; exact hlk
  have hdst' : ∀ (j : Nat) (d : Tmp), dsts[j]? = some (some d) → ∃ o, ops[j]? = some o ∧ o.dst = some d := fun j d h => by
    rw [← hd, List.getElem?_map] at h
    cases hj : ops.toList[j]? with
    | none => rw [hj] at h; simp at h
    | some o =>
      rw [hj] at h
      exact ⟨o, by simpa using hj, by simpa using h⟩
  have hmem : ∀ (t : Tmp) (v : Value) (l : List (Tmp × Value)), l.lookup t = some v → ∃ p ∈ l, p.1 = t := fun t v l => by
    induction l with
    | nil => intro h; simp at h
    | cons x r ih =>
      intro h
      rw [List.lookup_cons] at h
      by_cases e : t == x.1
      · exact ⟨x, List.mem_cons_self, (by simpa using e : t = x.1).symm⟩
      · have e' : (t == x.1) = false := by simpa using e
        rw [e'] at h
        obtain ⟨p, hp, hpt⟩ := ih h
        exact ⟨p, List.mem_cons_of_mem _ hp, hpt⟩
  have hstart : ∀ k, k ≤ ops.size → unl (Array.replicate ops.size false) k = k := by
    intro k
    induction k with
    | zero => intro _; rfl
    | succ k ih =>
      intro hk
      rw [unl, ih (by omega)]
      have : (Array.replicate ops.size false).getD k true = false := by simp [show k < ops.size by omega]
      rw [this]; rfl
  refine wp_region_any hm (wpAny_pen (pen := pen) (F := fun i u w => factP fs i u w) (fun i hi hne => by
    rw [List.all_eq_true] at hpb
    have := hpb i (List.mem_range.2 hi)
    rw [Bool.or_eq_true] at this
    exact this.resolve_left (by simpa using hne)) hpl ho ht hl (fun i o hi hil a' w' hts hds hout hSw hdep K hK => ?_) (fun a' w' h1 h2 h3 h5 K hK => ?_) _ _ _ _ ⟨by simp, rfl, rfl, fun _ _ => rfl, fun _ => hS, fun i o d hi _ hl _ => ?_⟩ (fun k o hk hlk => ?_) ?_ ?_)
  · have hbase : ∀ t v, base.lookup t = some v → a'.tmps.getD t undef = v := fun t v h => by
      obtain ⟨p, hp, rfl⟩ := hmem t v base h
      rw [List.all_eq_true] at hbo
      rw [hout p.1 (hbo p hp)]; exact hb p.1 v h
    have hdep' : ∀ j d, dsts[j]? = some (some d) → datT o j = true → factP fs j (a'.tmps.getD d undef) w' := fun j d h he => by
      obtain ⟨oe, hoe, hde⟩ := hdst' j d h
      exact hdep j oe d he hoe hde
    have hip : ops.toList.dropLast[i]? = some o := by
      have : ops.toList[i]? = some o := by simpa using hi
      rw [List.getElem?_dropLast, if_pos (by simpa using hil)]; exact this
    have hobi := allOps_at _ 0 hob i o hip
    rw [Nat.zero_add] at hobi
    obtain ⟨hg, hwp⟩ := hobi a' w' hSw hbase hdep' K hK
    have hwant : Region.wanted o (yielded ops a'.tmps) = true := by
      rcases hg with hg | ⟨j, d, hg, hj, hv⟩
      · simp [Region.wanted, hg]
      · obtain ⟨oj, hoj, hdj⟩ := hdst' j d hj
        have h1 : a'.tmps[d]? = some (.bool true) := by
          cases h : a'.tmps[d]? with
          | none => simp [h] at hv; cases hv
          | some u => simp [h] at hv; rw [hv]
        simp [Region.wanted, hg, yielded, hoj, hdj, h1]
    unfold wpOp
    simp only [hi, hwant, if_true]
    exact .inl hwp
  · have hw := hlast a' w' h1 h2 h3 (fun j d h hj hdep => by
      obtain ⟨o, ho', hd'⟩ := hdst' j d h
      exact h5 j o d ho' (by omega) hd' hdep) K fun v w2 hq => hK _ _ hq
    unfold wpOp
    have hwant : Region.wanted last (yielded ops a'.tmps) = true := by simp [Region.wanted, hgl]
    simp only [hl, hwant, if_true]
    exact .inl hw
  · exfalso
    have hlt : i < ops.size := (Array.getElem?_eq_some_iff.1 hi).1
    simp [hlt] at hl
  · exfalso
    have hlt : k < ops.size := (Array.getElem?_eq_some_iff.1 hk).1
    simp [hlt] at hlk
  · have hlt : ops.size - 1 < ops.size := by omega
    simp [hlt]
  · rw [hstart _ (Nat.le_refl _)]; exact Nat.le_refl _
end
end Go.Proofs.YtcliiefedmiokaaGreat
/-
  A list of lists of rows that the call owns.
-/
namespace Go.Proofs.YtcliiefedmiokaaGreat
open Go.RowKit

theorem Tryz.infoMat : (Tryz.prog.info? 22).map (fun i => (i.zero, i.size, i.bytes)) = some (some (.slice none 0 0), 1, 24) := by kernel_rfl
/-- Rows of the call's own, from lo on. -/
def OwnM2 (w : World) (lo : Nat) (v : Value) (m : List (List Int)) : Prop := ∃ hi, hi ≤ w.heap.size ∧ OwnMat w lo hi v m
theorem ownM2_below {w w' : World} {lo : Nat} {v : Value} {m : List (List Int)} (h : OwnM2 w lo v m) (hb : Below w.heap.size w w') : OwnM2 w' lo v m := by
  obtain ⟨hi, h1, h2⟩ := h
  exact ⟨hi, Nat.le_trans h1 hb.size, ownMat_below h2 hb⟩
theorem ownM2_kept {w w' : World} {lo B e n : Nat} {v u : Value} {m : List (List Int)} {xs : List Value} (h : OwnM2 w lo v m) (hu : w.ownsRow B e 1 u n xs) (hg : w.grownBy w' u.ownBlock) (h1 : 30 ≠ e) (h2 : 3 ≠ e) : OwnM2 w' lo v m := by
  obtain ⟨hi, h0, vs, g1, g2, g3, g4⟩ := h
  exact ⟨hi, Nat.le_trans h0 hg.size, vs, g1.kept hg (own_types g1 hu h1), g2, fun i hi => ⟨(g3 i hi).1.kept hg (own_types (g3 i hi).1 hu h2), (g3 i hi).2⟩, g4⟩
/-- A list of lists of rows that the call owns. -/
def OwnImgs (w : World) (lo : Nat) (v : Value) (ms : List (List (List Int))) : Prop :=
  ∃ us : List Value, w.ownsRow lo 22 1 v ms.length us ∧ ∀ i, (h : i < ms.length) → OwnM2 w lo (us.getD i undef) ms[i]
theorem ownImgs_below {w w' : World} {lo : Nat} {v : Value} {ms : List (List (List Int))} (h : OwnImgs w lo v ms) (hb : Below w.heap.size w w') : OwnImgs w' lo v ms := by
  obtain ⟨us, h1, h2⟩ := h
  exact ⟨us, own_below h1 hb, fun i hi => ownM2_below (h2 i hi) hb⟩
theorem ownImgs_push {w w' : World} {lo : Nat} {v v' u : Value} {us : List Value} {ms : List (List (List Int))} {m : List (List Int)} (hv : w.ownsRow lo 22 1 v ms.length us) (hr : ∀ i, (h : i < ms.length) → OwnM2 w lo (us.getD i undef) ms[i]) (hu : OwnM2 w lo u m)
    (hg : w.grownBy w' v.ownBlock) (ho : w'.ownsRow lo 22 1 v' (ms.length + 1) (us ++ [u])) : OwnImgs w' lo v' (ms ++ [m]) := by
  have hl : us.length = ms.length := by have := hv.1; omega
  refine ⟨us ++ [u], by simpa using ho, fun i h => ?_⟩
  by_cases e : i < ms.length
  · have e1 : (us ++ [u]).getD i undef = us.getD i undef := by simp [List.getD_eq_getElem?_getD, List.getElem?_append_left (show i < us.length by omega)]
    rw [e1, List.getElem_append_left e]
    exact ownM2_kept (hr i e) hv hg (by decide) (by decide)
  · obtain rfl : i = ms.length := by simp at h; omega
    have e1 : (us ++ [u]).getD ms.length undef = u := by rw [← hl]; simp [List.getD_eq_getElem?_getD]
    rw [e1, show (ms ++ [m])[ms.length] = m by simp]
    exact ownM2_kept hu hv hg (by decide) (by decide)
end Go.Proofs.YtcliiefedmiokaaGreat
/-
  A region that draws its order inside a round of a range over a function; one operation (a call of yield) waits for all others but the last.
-/
namespace Go.Proofs.YtcliiefedmiokaaGreat
open Go.RowKit

section
variable {P : Program} {ops : Array Oper} {Q : Exit → Act → World → Prop}

theorem wpIn_of_wp {l n : Nat} {o : Oper} {a : Act} {w : World} {K : Act → World → Prop} (ho : ∀ c, o.op ≠ .defer c) (h : o.wp P a w K Q) : o.wpIn (Fence.wide.inRound l) n P a w K Q := by
  refine ⟨fun f _ => trivial, ?_⟩
  rw [Fence.inRound_round, Oper.semAt_some l _ _ ho]
  unfold Oper.wp at h
  cases hr : (execOp a.eval o).run P w with
  | ok v w' =>
    rw [hr] at h
    cases v with
    | value v => exact h
    | skip => exact h
    | defer d => exact h
    | enter f args => exact ⟨fun h => by simp [Fence.wide] at h, (show CallsIn Fence.wide (n - 1) P f args w' _ from callsIn_wide.2 h)⟩
    | row r args => exact ⟨fun h => by simp [Fence.wide] at h, fun c cs _ => let ⟨v, w', r, s⟩ := h c cs; ⟨v, w', r, stepsIn_wide.2 s⟩⟩
    | _ => exact h.elim
  | halt x w' =>
    rw [hr] at h
    cases x <;> exact h

def EachPI (Fc : Fence) (n : Nat) (P : Program) (ops : Array Oper) (pen : Nat) (Q : Exit → Act → World → Prop) (a0 : Act) (S : World → Prop) (F : Nat → Value → World → Prop) (i : Nat) (o : Oper) : Prop :=
  ∀ (a : Act) (w : World), a.tmps.size = a0.tmps.size → a.defers = a0.defers → (∀ t, outside ops.pop t = true → a.tmps.getD t undef = a0.tmps.getD t undef) → S w →
    (∀ (j : Nat) (oe : Oper) (d : Tmp), datT o j = true → ops[j]? = some oe → oe.dst = some d → F j (a.tmps.getD d undef) w) →
    ∀ K : Act → World → Prop, (∀ v w', (i ≠ pen → S w') → (∀ j, needP ops.toList i j = true → ∀ u, F j u w → F j u w') → F i v w' → K (a.put o.dst v) w') → wpOpIn Fc n P ops Q i K a w

theorem wpAnyIn_pen {Fc : Fence} {n : Nat} {pen : Nat} {a0 : Act} {S : World → Prop} {F : Nat → Value → World → Prop} {last : Oper} (hpen : ∀ i, i < ops.size - 1 → i ≠ pen → anc ops.toList ops.toList.length pen i = true) (hpl : pen < ops.size) (ho : orderly .any a0.tmps.size 0 [] ops.toList = true) (ht : tails .any ops.toList = true) (hl : ops[ops.size - 1]? = some last)
    (hop : ∀ (i : Nat) (o : Oper), ops[i]? = some o → i < ops.size - 1 → EachPI Fc n P ops pen Q a0 S F i o)
    (hlast : ∀ (a : Act) (w : World), a.tmps.size = a0.tmps.size → a.defers = a0.defers → (∀ t, outside ops.pop t = true → a.tmps.getD t undef = a0.tmps.getD t undef) →
      (∀ (i : Nat) (o : Oper) (d : Tmp), ops[i]? = some o → i < ops.size - 1 → o.dst = some d → datT last i = true → F i (a.tmps.getD d undef) w) → ∀ K : Act → World → Prop, (∀ a' w', Q .normal a' w' → K a' w') → wpOpIn Fc n P ops Q (ops.size - 1) K a w) :
    ∀ (fuel : Nat) (listed : Array Bool) (a : Act) (w : World), MidP ops pen a0 S F listed a w → Closed .any ops listed → listed.getD (ops.size - 1) true = false → unl listed ops.size ≤ fuel → wpAnyIn Fc n P .any ops Q fuel listed a w := by
  have hlt0 : ops.size - 1 < ops.size := (Array.getElem?_eq_some_iff.1 hl).1
  have hon : ∀ (i : Nat) (o : Oper), ops[i]? = some o → ∀ e ∈ o.after, Region.binds .any e = true → e.on < i := fun i o hi e he hbd => by
    have := orderly_on ops.toList 0 [] ho i o (by simpa using hi) e he hbd; omega
  have hdst : ∀ (i : Nat) (o : Oper) (d : Tmp), ops[i]? = some o → o.dst = some d → d < a0.tmps.size := fun i o d hi hd => (orderly_dst ops.toList 0 [] ho i o d (by simpa using hi) hd).1
  have hone : ∀ (i : Nat) (o : Oper) (d : Tmp), ops[i]? = some o → o.dst = some d → ∀ (j : Nat) (o' : Oper), ops[j]? = some o' → i ≠ j → o'.dst ≠ some d := fun i o d hi hd j o' hj hij e => by
    rcases Nat.lt_or_gt_of_ne hij with h | h
    · exact (orderly_dst ops.toList 0 [] ho i o d (by simpa using hi) hd).2.2 j o' (by simpa using hj) h e
    · exact (orderly_dst ops.toList 0 [] ho j o' d (by simpa using hj) e).2.2 i o (by simpa using hi) h hd
  intro fuel
  induction fuel with
  | zero =>
    intro listed a w hm hcl hul hf
    exfalso
    have := unl_set listed _ hul ops.size
    rw [if_pos hlt0] at this
    omega
  | succ fuel ih =>
    intro listed a w hm hcl hul hf
    refine ⟨fun hr => ?_, fun i hi => ?_⟩
    · exfalso
      have h1 := ready_none hm.size hon hr _ hlt0
      have hlt : ops.size - 1 < listed.size := by have := hm.size; omega
      simp [hlt] at hul h1
      rw [h1] at hul; cases hul
    obtain ⟨hul2, o, ho', hall⟩ := mem_ready.1 hi
    have hlt : i < ops.size := (Array.getElem?_eq_some_iff.1 ho').1
    by_cases e : i = ops.size - 1
    · subst e
      rw [hl] at ho'
      obtain rfl := Option.some.inj ho'
      have hab := fun j hj => all_before ht hcl hl hall _ j (Nat.le_refl _) hj
      refine hlast a w hm.tmps hm.defers hm.out (fun j oj d hj hjl hd hdep => hm.held j oj d hj hd (hab j hjl) ⟨_, _, hl, hul2, hdep⟩) _ fun a' w' hq => ?_
      have hrd : Region.ready .any ops (listed.setIfInBounds (ops.size - 1) true) = [] := by
        rw [List.eq_nil_iff_forall_not_mem]
        intro j hj
        obtain ⟨hl', o', ho'', -⟩ := mem_ready.1 hj
        have hj' : j < ops.size := (Array.getElem?_eq_some_iff.1 ho'').1
        have hls : ops.size - 1 < listed.size := by have := hm.size; omega
        by_cases ej : ops.size - 1 = j
        · subst ej; simp [hls] at hl'
        · rw [getD_set_ne true ej] at hl'
          have h1 := hab j (by omega)
          have hjs : j < listed.size := by have := hm.size; omega
          simp [hjs] at hl' h1
          rw [h1] at hl'; cases hl'
      cases fuel with
      | zero => exact ⟨hrd, hq⟩
      | succ fuel => exact ⟨fun _ => hq, fun j hj => by rw [hrd] at hj; cases hj⟩
    · have hpu : listed.getD pen false = false := by
        by_cases ep : i = pen
        · subst ep
          have hps : i < listed.size := by have := hm.size; omega
          simp [hps] at hul2 ⊢; exact hul2
        · cases h : listed.getD pen false with
          | false => rfl
          | true =>
            exfalso
            have h1 := anc_listed hcl _ pen i ops[pen] (Array.getElem?_eq_getElem hpl) (fun e he hbe => hcl pen ops[pen] (Array.getElem?_eq_getElem hpl) h e he hbe) (hpen i (by omega) ep)
            have his : i < listed.size := by have := hm.size; omega
            simp [his] at hul2 h1
            rw [h1] at hul2; cases hul2
      refine hop i o ho' (by omega) a w hm.tmps hm.defers hm.out (hm.world hpu) (fun j oe d hdj hoe hd => by
        obtain ⟨e, he, rfl, hb⟩ := depT_iff.1 (datT_dep hdj)
        exact hm.held e.on oe d hoe hd (hall e he hb) ⟨i, o, ho', hul2, hdj⟩) _ fun v w' hS hst hF => ?_
      have hls : listed.size = ops.size := hm.size
      refine ih _ _ _ ⟨by simp [hm.size], ?_, ?_, fun t ht => ?_, fun hpn => hS (fun ep => by subst ep; simp [show i < listed.size by omega] at hpn), fun j oj d hj hd hlj hcons => ?_⟩ (fun k ok hk hlk e' he' hb' => ?_) ?_ ?_
      · cases o.dst <;> simp [Act.put, hm.tmps]
      · cases o.dst <;> simp [Act.put, hm.defers]
      · rw [← hm.out t ht]
        cases hd : o.dst with
        | none => rfl
        | some d =>
          have hne : d ≠ t := by
            intro e; subst e
            unfold outside at ht
            rw [Array.all_eq_true_iff_forall_mem] at ht
            have := ht o (Array.mem_of_getElem? (i := i) (by rw [Array.getElem?_pop, if_pos (by omega)]; exact ho'))
            rw [hd] at this; simp at this
          simp [Act.put, Array.getElem?_setIfInBounds_ne hne]
      · by_cases e : i = j
        · subst e
          rw [ho'] at hj
          obtain rfl := Option.some.inj hj
          have hdl : d < a.tmps.size := by rw [hm.tmps]; exact hdst i o d ho' hd
          have : (a.put o.dst v).tmps.getD d undef = v := by rw [hd]; simp [Act.put, hdl]
          rw [this]; exact hF
        · have h1 : listed.getD j false = true := by rw [getD_set_ne false e] at hlj; exact hlj
          obtain ⟨k, ok, hk, huk, hdk⟩ := hcons
          have hki : i ≠ k := by
            intro e'; subst e'
            simp [show i < listed.size by omega] at huk
          have huk' : listed.getD k true = false := by rw [getD_set_ne true hki] at huk; exact huk
          have hanc : anc ops.toList ops.toList.length i k = false := by
            cases h : anc ops.toList ops.toList.length i k with
            | false => rfl
            | true =>
              have := anc_listed hcl _ i k o ho' hall h
              have hks : k < listed.size := by rw [hls]; exact (Array.getElem?_eq_some_iff.1 hk).1
              simp [hks] at this huk'
              rw [this] at huk'; cases huk'
          have h2 := hm.held j oj d hj hd h1 ⟨k, ok, hk, huk', hdk⟩
          have h3 : (a.put o.dst v).tmps.getD d undef = a.tmps.getD d undef := by
            cases hd' : o.dst with
            | none => rfl
            | some d' =>
              have hne : d' ≠ d := fun e' => hone j oj d hj hd i o ho' (Ne.symm e) (by rw [hd', e'])
              simp [Act.put, Array.getElem?_setIfInBounds_ne hne]
          have hji : anc ops.toList ops.toList.length j i = false := by
            cases h : anc ops.toList ops.toList.length j i with
            | false => rfl
            | true =>
              exfalso
              have := anc_listed hcl _ j i oj hj (fun e he hbe => hcl j oj hj h1 e he hbe) h
              have his : i < listed.size := by omega
              simp [his] at hul2 this
              rw [this] at hul2; cases hul2
          rw [h3]; exact hst j (needP_of (needB_of (Ne.symm e) (by simpa using hk) (Ne.symm hki) hanc hdk) hji) _ h2
      · by_cases ek : i = k
        · subst ek
          rw [ho'] at hk
          obtain rfl := Option.some.inj hk
          have h1 := hall e' he' hb'
          have h2 : i ≠ e'.on := by have := hon i o ho' e' he' hb'; omega
          rw [getD_set_ne false h2]; exact h1
        · rw [getD_set_ne false ek] at hlk
          have h1 := hcl k ok hk hlk e' he' hb'
          by_cases e2 : i = e'.on
          · rw [← e2]; simp [show i < listed.size by omega]
          · rw [getD_set_ne false e2]; exact h1
      · rw [getD_set_ne true e]; exact hul
      · have := unl_set listed i hul2 ops.size
        rw [if_pos hlt] at this; omega

/-- What is asked of one operation: its plain law, or (of a call of yield) the law in the round. -/
def Obi (l n : Nat) (P : Program) (Q : Exit → Act → World → Prop) (ls : List Oper) (pen : Nat) (base : List (Tmp × Value)) (dsts : List (Option Tmp)) (S : World → Prop) (fs : List FactP) (i : Nat) (o : Oper) : Prop :=
  ∀ (a : Act) (w : World), S w → (∀ t v, base.lookup t = some v → a.tmps.getD t undef = v) →
    (∀ j d, dsts[j]? = some (some d) → datT o j = true → factP fs j (a.tmps.getD d undef) w) →
    ∀ K : Act → World → Prop, (∀ v w', (i ≠ pen → S w') → (∀ j, needP ls i j = true → ∀ u, factP fs j u w → factP fs j u w') → factP fs i v w' → K (a.put o.dst v) w') →
      (o.guard = none ∨ ∃ j d, o.guard = some (j, true) ∧ dsts[j]? = some (some d) ∧ a.tmps.getD d undef = .bool true) ∧ o.wpIn (Fence.wide.inRound l) n P a w K Q
theorem obi_of {l n : Nat} {ls : List Oper} {pen : Nat} {base : List (Tmp × Value)} {dsts : List (Option Tmp)} {S : World → Prop} {fs : List FactP} {i : Nat} {o : Oper} (ho : ∀ c, o.op ≠ .defer c) (h : Obp P Q ls pen base dsts S fs i o) : Obi l n P Q ls pen base dsts S fs i o :=
  fun a w h1 h2 h3 K hK => let ⟨g, k⟩ := h a w h1 h2 h3 K hK; ⟨g, wpIn_of_wp ho k⟩

theorem wpIn_region_pen {n l : Nat} {id : Nat} {a : Act} {w : World} {S : World → Prop} (pen : Nat) (fs : List FactP) (base : List (Tmp × Value)) (dsts : List (Option Tmp)) (last : Oper) (k : Nat)
    (hpb : ((List.range (ops.size - 1)).all fun i => i == pen || anc ops.toList ops.toList.length pen i) = true) (hpl : pen < ops.size) (hm : P.follows .mixedOrders = true) (hk : ops.size = k + 1) (hlk : ops[k]? = some last) (ho : orderly .any a.tmps.size 0 [] ops.toList = true) (ht : tails .any ops.toList = true) (hd : ops.toList.map (·.dst) = dsts)
    (hbo : base.all (fun p => outside ops.pop p.1) = true) (hb : ∀ t v, base.lookup t = some v → a.tmps.getD t undef = v)
    (hS : S w.drew) (hob : AllOps (Obi l n P Q ops.toList pen base dsts S fs) 0 ops.toList.dropLast) (hgl : last.guard = none) (hpl2 : ∀ c, last.op ≠ .defer c)
    (hlast : ∀ (a' : Act) (w' : World), a'.tmps.size = a.tmps.size → a'.defers = a.defers → (∀ t, outside ops.pop t = true → a'.tmps.getD t undef = a.tmps.getD t undef) →
      (∀ j d, dsts[j]? = some (some d) → j < k → datT last j = true → factP fs j (a'.tmps.getD d undef) w') → ∀ K : Act → World → Prop, (∀ v w2, Q .normal (a'.put last.dst v) w2 → K (a'.put last.dst v) w2) → last.wp P a' w' K Q) :
    (Code.region id ops true).wpIn (Fence.wide.inRound l) n P Q a w := by
  have hl : ops[ops.size - 1]? = some last := by rw [hk]; exact hlk
  have hdst' : ∀ (j : Nat) (d : Tmp), dsts[j]? = some (some d) → ∃ o, ops[j]? = some o ∧ o.dst = some d := fun j d h => by
    rw [← hd, List.getElem?_map] at h
    cases hj : ops.toList[j]? with
    | none => rw [hj] at h; simp at h
    | some o =>
      rw [hj] at h
      exact ⟨o, by simpa using hj, by simpa using h⟩
  have hmem : ∀ (t : Tmp) (v : Value) (l : List (Tmp × Value)), l.lookup t = some v → ∃ p ∈ l, p.1 = t := fun t v l => by
    induction l with
    | nil => intro h; simp at h
    | cons x r ih =>
      intro h
      rw [List.lookup_cons] at h
      by_cases e : t == x.1
      · exact ⟨x, List.mem_cons_self, (by simpa using e : t = x.1).symm⟩
      · have e' : (t == x.1) = false := by simpa using e
        rw [e'] at h
        obtain ⟨p, hp, hpt⟩ := ih h
        exact ⟨p, List.mem_cons_of_mem _ hp, hpt⟩
  have hstart : ∀ k, k ≤ ops.size → unl (Array.replicate ops.size false) k = k := by
    intro k
    induction k with
    | zero => intro _; rfl
    | succ k ih =>
      intro hk
      rw [unl, ih (by omega)]
      have : (Array.replicate ops.size false).getD k true = false := by simp [show k < ops.size by omega]
      rw [this]; rfl
  refine wpIn_region_any hm (wpAnyIn_pen (pen := pen) (F := fun i u w => factP fs i u w) (fun i hi hne => by
    rw [List.all_eq_true] at hpb
    have := hpb i (List.mem_range.2 hi)
    rw [Bool.or_eq_true] at this
    exact this.resolve_left (by simpa using hne)) hpl ho ht hl (fun i o hi hil a' w' hts hds hout hSw hdep K hK => ?_) (fun a' w' h1 h2 h3 h5 K hK => ?_) _ _ _ _ ⟨by simp, rfl, rfl, fun _ _ => rfl, fun _ => hS, fun i o d hi _ hl _ => ?_⟩ (fun k o hk hlk => ?_) ?_ ?_)
  · have hbase : ∀ t v, base.lookup t = some v → a'.tmps.getD t undef = v := fun t v h => by
      obtain ⟨p, hp, rfl⟩ := hmem t v base h
      rw [List.all_eq_true] at hbo
      rw [hout p.1 (hbo p hp)]; exact hb p.1 v h
    have hdep' : ∀ j d, dsts[j]? = some (some d) → datT o j = true → factP fs j (a'.tmps.getD d undef) w' := fun j d h he => by
      obtain ⟨oe, hoe, hde⟩ := hdst' j d h
      exact hdep j oe d he hoe hde
    have hip : ops.toList.dropLast[i]? = some o := by
      have : ops.toList[i]? = some o := by simpa using hi
      rw [List.getElem?_dropLast, if_pos (by simpa using hil)]; exact this
    have hobi := allOps_at _ 0 hob i o hip
    rw [Nat.zero_add] at hobi
    obtain ⟨hg, hwp⟩ := hobi a' w' hSw hbase hdep' K hK
    have hwant : Region.wanted o (yielded ops a'.tmps) = true := by
      rcases hg with hg | ⟨j, d, hg, hj, hv⟩
      · simp [Region.wanted, hg]
      · obtain ⟨oj, hoj, hdj⟩ := hdst' j d hj
        have h1 : a'.tmps[d]? = some (.bool true) := by
          cases h : a'.tmps[d]? with
          | none => simp [h] at hv; cases hv
          | some u => simp [h] at hv; rw [hv]
        simp [Region.wanted, hg, yielded, hoj, hdj, h1]
    unfold wpOpIn
    simp only [hi, hwant, if_true]
    exact hwp
  · have hw := hlast a' w' h1 h2 h3 (fun j d h hj hdep => by
      obtain ⟨o, ho', hd'⟩ := hdst' j d h
      exact h5 j o d ho' (by omega) hd' hdep) K fun v w2 hq => hK _ _ hq
    unfold wpOpIn
    have hwant : Region.wanted last (yielded ops a'.tmps) = true := by simp [Region.wanted, hgl]
    simp only [hl, hwant, if_true]
    exact wpIn_of_wp hpl2 hw
  · exfalso
    have hlt : i < ops.size := (Array.getElem?_eq_some_iff.1 hi).1
    simp [hlt] at hl
  · exfalso
    have hlt : k < ops.size := (Array.getElem?_eq_some_iff.1 hk).1
    simp [hlt] at hlk
  · have hlt : ops.size - 1 < ops.size := by omega
    simp [hlt]
  · rw [hstart _ (Nat.le_refl _)]; exact Nat.le_refl _
end
end Go.Proofs.YtcliiefedmiokaaGreat
/-
  The cursor of the laws that draw their arguments from a code: it answers bytes and numbers within bounds.
-/
namespace Go.Proofs.YtcliiefedmiokaaGreat
open Go.RowKit

theorem i64_and255 (n : Int) : bits .and .i64 n 255 = n % 256 := by
  have h127 : (BitVec.ofInt 64 255).toNat = 2 ^ 8 - 1 := by decide
  have key : (BitVec.ofInt 64 n &&& BitVec.ofInt 64 255).toNat = (n % ((2 ^ 64 : Nat) : Int)).toNat % 2 ^ 8 := by
    rw [BitVec.toNat_and, BitVec.toNat_ofInt, h127, Nat.and_two_pow_sub_one_eq_mod]
  show IntKind.i64.wrap ((BitVec.ofInt 64 n &&& BitVec.ofInt 64 255).toNat : Nat) = n % 256
  rw [key, IntKind.wrap_i64]
  omega
theorem i64_and30 (n : Int) : bits .and .i64 n 1073741823 = n % 1073741824 := by
  have h127 : (BitVec.ofInt 64 1073741823).toNat = 2 ^ 30 - 1 := by decide
  have key : (BitVec.ofInt 64 n &&& BitVec.ofInt 64 1073741823).toNat = (n % ((2 ^ 64 : Nat) : Int)).toNat % 2 ^ 30 := by
    rw [BitVec.toNat_and, BitVec.toNat_ofInt, h127, Nat.and_two_pow_sub_one_eq_mod]
  show IntKind.i64.wrap ((BitVec.ofInt 64 n &&& BitVec.ofInt 64 1073741823).toNat : Nat) = n % 1073741824
  rw [key, IntKind.wrap_i64]
  omega

/-- A slice of bytes that came in, from below block 'base': its cells read. -/
def InBytes (w : World) (base : Nat) (a : Option Addr) (n : Nat) : Prop :=
  n ≤ maxLen ∧ base ≤ w.heap.size ∧ (n = 0 ∨ ∃ (g o : Nat) (z : Nat → Int), a = some ⟨g, o, none⟩ ∧ g < base ∧ (∀ i, i < n → w.cell? ⟨g, o + i, none⟩ = some (.int .u8 (z i))) ∧ ∀ i, 0 ≤ z i ∧ z i ≤ 255)
theorem inBytes_nil (w : World) : InBytes w w.heap.size none 0 := ⟨Nat.zero_le _, Nat.le_refl _, .inl rfl⟩
theorem inBytes_of {w : World} {x : Addr} {l c : Nat} {zs : List Int} (hl : l ≤ c) (hm : c ≤ maxLen) (hz : zs.length = c) (hcell : ∀ i, i < zs.length → w.cell? (x.add i) = some (.int .u8 (zs.getD i 0)))
    (hwz : ∀ n ∈ zs, (Lit.int .u8 n).wf = true) : InBytes w w.heap.size (some x) l := by
  refine ⟨by omega, Nat.le_refl _, ?_⟩
  by_cases h0 : l = 0
  · exact .inl h0
  · refine .inr ?_
    obtain ⟨g, o, spot⟩ := x
    have hc := hcell 0 (by omega)
    have hspot : spot = none := by simpa [Addr.add] using World.cell?_spot hc
    subst hspot
    refine ⟨g, o, fun i => zs.getD i 0, rfl, ?_, fun i hi => ?_, fun i => ?_⟩
    · have := World.block_lt_of_cell? w _ hc
      simpa [Addr.add] using this
    · have := hcell i (by omega)
      rwa [addr_add] at this
    · by_cases hi : i < zs.length
      · have := hwz (zs.getD i 0) (by rw [List.getD_eq_getElem?_getD, List.getElem?_eq_getElem hi]; exact List.getElem_mem hi)
        have e1 : IntKind.u8.min = 0 := rfl
        have e2 : IntKind.u8.max = 255 := rfl
        simpa [Lit.wf, e1, e2] using this
      · show 0 ≤ zs.getD i 0 ∧ zs.getD i 0 ≤ 255
        rw [List.getD_eq_getElem?_getD, List.getElem?_eq_none (by omega)]; simp
theorem inBytes_grown {w w' : World} {a : Option Addr} {n B base : Nat} (h : InBytes w base a n) (hg : w.grownBy w' (some B)) (hB : base ≤ B) : InBytes w' base a n := by
  refine ⟨h.1, Nat.le_trans h.2.1 hg.size, ?_⟩
  rcases h.2.2 with h0 | ⟨g, o, z, ha, hlt, hc, hz⟩
  · exact .inl h0
  · refine .inr ⟨g, o, z, ha, hlt, fun i hi => ?_, hz⟩
    exact hg.cell (hc i hi) (by simp; omega)
theorem inBytes_below {w w' : World} {a : Option Addr} {n base : Nat} (h : InBytes w base a n) (hb : Below base w w') : InBytes w' base a n := by
  refine ⟨h.1, Nat.le_trans h.2.1 hb.size, ?_⟩
  rcases h.2.2 with h0 | ⟨g, o, z, ha, hlt, hc, hz⟩
  · exact .inl h0
  · exact .inr ⟨g, o, z, ha, hlt, fun i hi => by rw [hb.cell (p := ⟨g, o + i, none⟩) hlt]; exact hc i hi, hz⟩

/-- The cursor lies in block B. -/
def CurAt (w : World) (B : Nat) (a : Option Addr) (n : Nat) : Prop :=
  ∃ (c : Nat) (i h : Int), w.heap[B]? = some (.cells #[.slice a n c, .int .i64 i, .int .i64 h] 118 (0, 0)) ∧ 0 ≤ i ∧ i ≤ n
theorem cur_cells {w : World} {B : Nat} {x y z : Value} {T : TypeId} (h : w.heap[B]? = some (.cells #[x, y, z] T (0, 0))) :
    w.cell? ⟨B, 0, none⟩ = some x ∧ w.cell? ⟨B, 1, none⟩ = some y ∧ w.cell? ⟨B, 2, none⟩ = some z ∧ (∀ j, w.frozen? ⟨B, j, none⟩ = false) :=
  ⟨by rw [cell_of_row w B 0 _ _ _ h]; rfl, by rw [cell_of_row w B 1 _ _ _ h]; rfl, by rw [cell_of_row w B 2 _ _ _ h]; rfl, fun j => frozen_of_row w B j _ _ h⟩
theorem cur_set2 {w : World} {B : Nat} {x y z u : Value} {T : TypeId} (h : w.heap[B]? = some (.cells #[x, y, z] T (0, 0))) : (w.setCell ⟨B, 2, none⟩ u).heap[B]? = some (.cells #[x, y, u] T (0, 0)) := heap_setCell_same w B 2 _ _ _ h
theorem cur_set1 {w : World} {B : Nat} {x y z u : Value} {T : TypeId} (h : w.heap[B]? = some (.cells #[x, y, z] T (0, 0))) : (w.setCell ⟨B, 1, none⟩ u).heap[B]? = some (.cells #[x, u, z] T (0, 0)) := heap_setCell_same w B 1 _ _ _ h
theorem grown_set (w : World) (B o : Nat) (u : Value) : w.grownBy (w.setCell ⟨B, o, none⟩ u) (some B) :=
  ⟨rfl, rfl, rfl, by simp [World.setCell], fun k _ hk => heap_setCell_other w ⟨B, o, none⟩ k u (fun e => hk (by simp [e]))⟩
theorem grown_draws {w w' : World} {row : Option Nat} (h : w.grownBy w' row) (k : Nat) : w.grownBy (w'.drewN k) row := ⟨h.os, h.tape, h.output, h.size, h.block⟩
theorem grown_refl (w : World) (row : Option Nat) : w.grownBy w row := ⟨rfl, rfl, rfl, Nat.le_refl _, fun _ _ _ => rfl⟩

/-- What a draw of the cursor leaves: a number from 0 to 'top', the cursor in its place, nothing else touched. -/
def DrawRes (w : World) (B : Nat) (a : Option Addr) (n : Nat) (top : Int) (e : Ending) (w' : World) : Prop :=
  ∃ x : Int, 0 ≤ x ∧ x ≤ top ∧ e = .returned (.int .i64 x) ∧ CurAt w' B a n ∧ w.grownBy w' (some B)

set_option maxHeartbeats 400000 in
theorem l01Byte_any (B n : Nat) (a : Option Addr) (w : World) (base : Nat) (hc : CurAt w B a n) (hin : InBytes w base a n) (hbase : base ≤ B) :
    Calls Tryz.prog 55 #[.pointer (some ⟨B, 0, none⟩)] w (DrawRes w B a n 255) := by
  obtain ⟨c, i, h, hB, hi0, hin1⟩ := hc
  obtain ⟨h0, h1, h2, hf⟩ := cur_cells hB
  have f2 := hf 2
  have HB := hide hB; have HI := hide hin
  clear hf hB
  have hmax := hin.1
  unfold maxLen at hmax
  clear hin
  go_enter Tryz.func55, Tryz.ntmps55
  go_wp2
  generalize wrap64 (wrap64 (h * 6364136223846793005) + 1442695040888963407) = hh
  have hb1 := cur_set2 (u := .int .i64 hh) HB.out
  have hg1 := grown_set w B 2 (.int .i64 hh)
  have hin1' := inBytes_grown HI.out hg1 hbase
  generalize w.setCell ⟨B, 2, none⟩ (.int .i64 hh) = w1 at hb1 hg1 hin1' ⊢
  obtain ⟨e0, e1, e2, hf⟩ := cur_cells hb1
  have f1 := hf 1
  have HB1 := hide hb1; have HG1 := hide hg1; have HI1 := hide hin1'
  clear h0 h1 h2 f2 hf hb1 hg1 hin1' HB
  go_quiet (fail)
  rw [i64_and255]
  generalize bits BinOp.xor IntKind.i64 (hh / 8589934592) (hh / 35184372088832) = xx
  have hx0 : 0 ≤ xx % 256 := by omega
  have hx1 : xx % 256 ≤ 255 := by omega
  generalize xx % 256 = x at hx0 hx1 ⊢
  by_cases hlt : i < (n : Int)
  · obtain ⟨k, rfl⟩ : ∃ k : Nat, i = (k : Int) := ⟨i.toNat, by omega⟩
    rcases HI1.out.2.2 with hn0 | ⟨g, o, z, rfl, hg, hcell, hz⟩
    · omega
    · have hxc := hcell k (by omega)
      have hzk := hz k
      obtain ⟨hz0, hz1⟩ := hzk
      clear hcell hz
      go_wp2
      go_quiet (fail)
      go_wp2
      go_quiet (fail)
      rw [i64_and255]
      have hy0 : 0 ≤ (x + z k) % 256 := by omega
      have hy1 : (x + z k) % 256 ≤ 255 := by omega
      generalize (x + z k) % 256 = y at hy0 hy1 ⊢
      go_wp2
      go_ret
      exact ⟨y, hy0, hy1, rfl, ⟨c, _, hh, cur_set1 HB1.out, by omega, by omega⟩, grown_trans (grown_draws HG1.out _) (grown_set _ _ _ _)⟩
  · go_wp2
    go_quiet (fail)
    go_wp2
    go_ret
    exact ⟨x, hx0, hx1, rfl, ⟨c, i, hh, HB1.out, hi0, hin1⟩, grown_draws (grown_draws HG1.out _) _⟩

/-- What l01New leaves: a cursor in a new block. -/
def NewRes (w : World) (a : Option Addr) (n : Nat) (e : Ending) (w' : World) : Prop :=
  e = .returned (.pointer (some ⟨w.heap.size, 0, none⟩)) ∧ CurAt w' w.heap.size a n ∧ Below w.heap.size w w' ∧ w.heap.size < w'.heap.size

set_option maxRecDepth 100000 in
set_option maxHeartbeats 400000 in
theorem l01New_big (n c : Nat) (a : Option Addr) (w : World) (base : Nat) (hin : InBytes w base a n) :
    Calls Tryz.prog 60 #[.slice a n c] w (NewRes w a n) := by
  have hn : n ≤ 9223372036854775807 := by have := hin.1; unfold maxLen at this; omega
  rcases hin.2.2 with h0 | ⟨g, o, z, rfl, hg, hcell, hz⟩
  · subst h0
    clear hin
    go_enter Tryz.func60, Tryz.ntmps60
    go_wp2
    go_loop [3, 4] (fun h i => ∃ x : Int, h = .int .i64 x ∧ i = .int .i64 0) (fun _ _ => 0)
    case atStart => exact ⟨_, rfl, rfl⟩
    case round =>
      obtain ⟨x, rfl, rfl⟩ := hrel
      go_wp2
      go_ret
      exact ⟨rfl, ⟨c, 0, x, heap_alloc_new w _, by omega, by omega⟩, (Below.refl _ _).alloc (Nat.le_refl _) _, by simp⟩
  · have HI := hide hin; have HC := hide hcell; have HZ := hide hz
    clear hin hcell hz
    go_enter Tryz.func60, Tryz.ntmps60
    go_wp2
    go_loop [3, 4] (fun h i => ∃ (x : Int) (k : Nat), k ≤ n ∧ k ≤ 4000 ∧ h = .int .i64 x ∧ i = .int .i64 k) (fun _ i => 4000 - (intOf i).toNat)
    case atStart => exact ⟨_, 0, Nat.zero_le _, Nat.zero_le _, rfl, rfl⟩
    case round =>
      obtain ⟨x, k, hk, hk4, rfl, rfl⟩ := hrel
      by_cases hlt : k < n
      · by_cases h4 : k < 4000
        · have hx := HC.out k hlt
          have h4I : (k : Int) < 4000 := by omega
          have hltI : (k : Int) < n := by omega
          go_wp2
          go_round
          case rel => exact ⟨_, k + 1, by omega, by omega, rfl, by go_num⟩
          case measure => simp [intOf]; omega
        · go_wp2
          go_ret
          exact ⟨rfl, ⟨c, 0, x, heap_alloc_new w _, by omega, by omega⟩, (Below.refl _ _).alloc (Nat.le_refl _) _, by simp⟩
      · go_wp2
        go_ret
        exact ⟨rfl, ⟨c, 0, x, heap_alloc_new w _, by omega, by omega⟩, (Below.refl _ _).alloc (Nat.le_refl _) _, by simp⟩
theorem l01New_any (n c : Nat) (a : Option Addr) (w : World) (base : Nat) (hin : InBytes w base a n) (_hn : n ≤ 2000000) :
    Calls Tryz.prog 60 #[.slice a n c] w (NewRes w a n) := l01New_big n c a w base hin
/-- Behind a draw the cursor and the code are as good as before. -/
theorem below_drawn {W w w' : World} {B : Nat} (h : Below W.heap.size W w) (hg : w.grownBy w' (some B)) (hB : W.heap.size ≤ B) : Below W.heap.size W w' :=
  h.grown hg h.size fun k hk => by injection hk with hk; omega
set_option maxHeartbeats 400000 in
theorem l18New_any (n c : Nat) (a : Option Addr) (m : Nat) (w : World) (base : Nat) (hin : InBytes w base a n) (hn : n ≤ 2000000) (hm : m ≤ 1000) :
    Calls Tryz.prog 42 #[.slice a n c, .int .i64 m] w (NewRes w a n) := by
  have HI := hide hin
  clear hin
  go_enter Tryz.func42, Tryz.ntmps42
  go_wp2_with fail
  refine (l01New_any n c a _ base HI.out hn).mono ?_
  rintro e w1 ⟨rfl, hc, hb, hlt⟩
  have HC := hide hc; have HB := hide hb; have HL := hide hlt
  clear hc hb hlt
  go_wp2_with fail
  go_loopw [6] (fun i w' => ∃ k : Nat, k ≤ m ∧ i = .int .i64 k ∧ CurAt w' w.heap.size a n ∧ Below w.heap.size w w' ∧ w.heap.size < w'.heap.size) (fun i _ => m - (intOf i).toNat)
  case atStart => exact ⟨0, Nat.zero_le _, rfl, HC.out, HB.out, HL.out⟩
  case round =>
    clear HC HB HL
    obtain ⟨k, hk, rfl, hc, hb, hlt⟩ := hrel
    have HC := hide hc; have HB := hide hb; have HL := hide hlt
    clear hc hb hlt
    by_cases hkm : k < m
    · go_wp2_with (go_at_call 55; refine (l01Byte_any _ n a _ base HC.out (inBytes_below HI.out (HB.out.mono HI.out.2.1)) HI.out.2.1).mono ?_; rintro e w2 ⟨x, hx0, hx1, rfl, hc2, hg2⟩; replace hc2 := hide hc2; replace hg2 := hide hg2)
      go_roundw
      case rel => exact ⟨k + 1, by omega, by go_num, hc2.out, below_drawn HB.out hg2.out (Nat.le_refl _), Nat.lt_of_lt_of_le HL.out hg2.out.size⟩
      case measure => simp [intOf]; omega
    · go_wp2_with fail
      go_ret
      exact ⟨rfl, HC.out, HB.out, HL.out⟩

set_option maxHeartbeats 400000 in
theorem l01Below_any (B n : Nat) (a : Option Addr) (m : Int) (w : World) (base : Nat) (hm0 : 1 ≤ m) (hm1 : m ≤ 256) (hc : CurAt w B a n) (hin : InBytes w base a n) (hbase : base ≤ B) :
    Calls Tryz.prog 62 #[.pointer (some ⟨B, 0, none⟩), .int .i64 m] w (DrawRes w B a n (m - 1)) := by
  have HC := hide hc; have HI := hide hin
  clear hc hin
  go_enter Tryz.func62, Tryz.ntmps62
  go_wp2_with fail
  refine (l01Byte_any B n a _ base HC.out HI.out hbase).mono ?_
  rintro e w2 ⟨x, hx0, hx1, rfl, hc2, hg2⟩
  replace hc2 := hide hc2; replace hg2 := hide hg2
  have h0 : 0 ≤ x % m := Int.emod_nonneg _ (by omega)
  have h1 : x % m ≤ m - 1 := by have := Int.emod_lt_of_pos x (show 0 < m by omega); omega
  go_wp2
  go_ret
  exact ⟨x % m, h0, h1, rfl, hc2.out, hg2.out⟩

/-- Two draws in one statement, in whatever order. -/
def NumRes (w : World) (e : Ending) (w' : World) : Prop := ∃ x : Int, 0 ≤ x ∧ x ≤ 65535 ∧ e = .returned (.int .i64 x) ∧ Below w.heap.size w w'

set_option maxHeartbeats 400000 in
theorem makeNum_any (n c : Nat) (a : Option Addr) (m : Nat) (w : World) (base : Nat) (hin : InBytes w base a n) (hn : n ≤ 2000000) (hm : m ≤ 1000) :
    Calls Tryz.prog 19 #[.slice a n c, .int .i64 m] w (NumRes w) := by
  have HI := hide hin
  clear hin
  go_enter Tryz.func19, Tryz.ntmps19
  go_wp2_with fail
  refine (l18New_any n c a m _ base HI.out hn hm).mono ?_
  rintro e w1 ⟨rfl, hc, hb, hlt⟩
  have HC := hide hc; have HB := hide hb
  clear hc hb hlt
  go_wp2_with fail
  refine (l01Byte_any _ n a _ base HC.out (inBytes_below HI.out (HB.out.mono HI.out.2.1)) HI.out.2.1).mono ?_
  rintro e w2 ⟨x, hx0, hx1, rfl, hc2, hg2⟩
  replace hc2 := hide hc2
  have HB2 := hide (below_drawn HB.out hg2 (Nat.le_refl _))
  clear hg2
  go_wp2_with fail
  refine (l01Byte_any _ n a _ base hc2.out (inBytes_below HI.out (HB2.out.mono HI.out.2.1)) HI.out.2.1).mono ?_
  rintro e w3 ⟨y, hy0, hy1, rfl, hc3, hg3⟩
  have HB3 := hide (below_drawn HB2.out hg3 (Nat.le_refl _))
  clear hg3 hc3
  go_wp2
  go_ret
  exact ⟨x * 256 + y, by omega, by omega, rfl, HB3.out⟩
end Go.Proofs.YtcliiefedmiokaaGreat
/-
  A queue of the call's own: a slice whose first elements have been cut off, and to which others are appended.
-/
namespace Go.Proofs.YtcliiefedmiokaaGreat
open Go.RowKit

/-- n elements of z cells, from some place on in a row that the call has made. -/
def OwnQ (w : World) (base e z : Nat) (v : Value) (n : Nat) (xs : List Value) : Prop :=
  xs.length = n * z ∧ ∃ g o cap cur, v = .slice (some ⟨g, o, none⟩) n cap ∧ base ≤ g ∧ w.heap[g]? = some (.cells cur e (0, 0)) ∧ n ≤ cap ∧ cap ≤ maxLen ∧ o + cap * z ≤ cur.size ∧ ∀ j, j < n * z → cur[o + j]? = xs[j]?
theorem ownQ_slice {w : World} {base e z n : Nat} {v : Value} {xs : List Value} (h : OwnQ w base e z v n xs) : ∃ g o cap, v = .slice (some ⟨g, o, none⟩) n cap ∧ n ≤ cap ∧ cap ≤ maxLen ∧ base ≤ g ∧ g < w.heap.size ∧ ∀ j, j < n * z → w.cell? ⟨g, o + j, none⟩ = xs[j]? := by
  obtain ⟨-, g, o, cap, cur, rfl, hb, hg, h1, h2, h3, h4⟩ := h
  refine ⟨g, o, cap, rfl, h1, h2, hb, (Array.getElem?_eq_some_iff.1 hg).1, fun j hj => ?_⟩
  rw [cell_of_row w g (o + j) _ _ _ hg]
  exact h4 j hj
theorem ownQ_lt {w : World} {base e z n : Nat} {v : Value} {xs : List Value} (h : OwnQ w base e z v n xs) : ∀ k, v.ownBlock = some k → base ≤ k ∧ k < w.heap.size := by
  obtain ⟨g, o, cap, rfl, -, -, h1, h2, -⟩ := ownQ_slice h
  intro k hk
  simp [Value.ownBlock] at hk
  subst hk
  exact ⟨h1, h2⟩
theorem ownQ_heap {w w' : World} {base e z n : Nat} {v : Value} {xs : List Value} (h : OwnQ w base e z v n xs) (hk : ∀ k, v.ownBlock = some k → w'.heap[k]? = w.heap[k]?) : OwnQ w' base e z v n xs := by
  obtain ⟨h0, g, o, cap, cur, rfl, hb, hg, r⟩ := h
  exact ⟨h0, g, o, cap, cur, rfl, hb, (hk g rfl).trans hg, r⟩
theorem ownQ_below {w w' : World} {base e z n : Nat} {v : Value} {xs : List Value} (h : OwnQ w base e z v n xs) (hb : Below w.heap.size w w') : OwnQ w' base e z v n xs := ownQ_heap h fun k hk => hb.block k (ownQ_lt h k hk).2
theorem ownQ_grown {w w' : World} {base e z n : Nat} {v : Value} {xs : List Value} {row : Option Nat} (h : OwnQ w base e z v n xs) (hg : w.grownBy w' row) (hr : ∀ k, v.ownBlock = some k → row ≠ some k) : OwnQ w' base e z v n xs := ownQ_heap h fun k hk => hg.block k (ownQ_lt h k hk).2 (Ne.symm (hr k hk))
theorem ownQ_of {w : World} {base e z n : Nat} {v : Value} {xs : List Value} (h : w.ownsRow base e z v n xs) (hn : 0 < n) : OwnQ w base e z v n xs := by
  refine ⟨h.1, ?_⟩
  rcases h.2 with ⟨_, h0⟩ | ⟨g, cap, cur, rfl, hb, hg, h1, h2, h3, h4⟩
  · omega
  · refine ⟨g, 0, cap, cur, rfl, hb, hg, h1, h2, by omega, fun j hj => ?_⟩
    rw [Nat.zero_add, ← h4, List.getElem?_take, if_pos hj]; simp
theorem ownQ_not_row {w : World} {b1 e1 z1 n1 b2 e2 z2 n2 : Nat} {v1 v2 : Value} {xs ys : List Value} (h1 : OwnQ w b1 e1 z1 v1 n1 xs) (h2 : w.ownsRow b2 e2 z2 v2 n2 ys) (hne : e1 ≠ e2) : ∀ k, v1.ownBlock = some k → v2.ownBlock ≠ some k := by
  obtain ⟨-, g, o, cap, cur, rfl, -, hg, -⟩ := h1
  intro k hk
  simp [Value.ownBlock] at hk
  subst hk
  rcases h2.2 with ⟨rfl, _⟩ | ⟨g2, c2, cur2, rfl, _, hg2, _⟩
  · simp [Value.ownBlock]
  · intro e
    simp only [Value.ownBlock, Option.some.injEq] at e
    subst e
    rw [hg] at hg2
    simp only [Option.some.injEq, Obj.cells.injEq] at hg2
    exact hne hg2.2.1
/-- 'x[1:]'. -/
def tailV (g o z n cap : Nat) : Value := .slice (some (if cap = 1 then ⟨g, o, none⟩ else ⟨g, o + z, none⟩)) n (cap - 1)
theorem ownQ_tail {w : World} {base e z n g o cap : Nat} {xs : List Value} (h : OwnQ w base e z (.slice (some ⟨g, o, none⟩) (n + 1) cap) (n + 1) xs) : OwnQ w base e z (tailV g o z n cap) n (xs.drop z) := by
  obtain ⟨h0, g', o', cap', cur, he, hb, hg, h1, h2, h3, h4⟩ := h
  cases he
  have hz : (n + 1) * z = n * z + z := by rw [Nat.add_mul, Nat.one_mul]
  refine ⟨by rw [List.length_drop]; omega, ?_⟩
  unfold tailV
  by_cases hc : cap = 1
  · subst hc
    obtain rfl : n = 0 := by omega
    exact ⟨g, o, 0, cur, by rw [if_pos rfl], hb, hg, Nat.zero_le _, Nat.zero_le _, by omega, fun j hj => by omega⟩
  · have e1 : cap * z = (cap - 1) * z + z := by
      obtain ⟨c, rfl⟩ : ∃ c, cap = c + 1 := ⟨cap - 1, by omega⟩
      rw [Nat.add_sub_cancel, Nat.add_mul, Nat.one_mul]
    refine ⟨g, o + z, cap - 1, cur, by rw [if_neg hc], hb, hg, by omega, by omega, by omega, fun j hj => ?_⟩
    rw [List.getElem?_drop, ← h4 (z + j) (by omega), Nat.add_assoc]
theorem exec_tail {P : Program} {ρ : Operand → Value} {o : Oper} {w : World} {x : Operand} {T E : TypeId} {g b z n c : Nat} (ho : o.op = .slice T x (some (.const (.int .i64 1))) none none) (hl : ρ (.const (.int .i64 1)) = .int .i64 1) (hx : ρ x = .slice (some ⟨g, b, none⟩) (n + 1) c) (hc : n + 1 ≤ c) (hu : P.underlying T = some (.slice E)) (hs : ∀ w, (sizeOf E).run P w = .ok z w) :
    (execOp ρ o).run P w = .ok (.value (tailV g b z n c)) w := by
  unfold execOp tailV
  simp only [ho, Option.map_some, Option.map_none, hx, hl]
  by_cases e : c = 1
  · subst e
    have : n = 0 := by omega
    subst this
    simp [Instr.sliceAt, Instr.slice, run_underlying hu, Instr.sliceBounds, Instr.sliceBound, asIntOf, hs, Result.andThen]
  · have h3 : (1 : Int) ≤ (n : Int) + 1 := by omega
    simp [Instr.sliceAt, Instr.slice, run_underlying hu, Instr.sliceBounds, Instr.sliceBound, asIntOf, hs, Result.andThen, e, h3, addr_add]
theorem setCells_row {g : Nat} {e : TypeId} : ∀ (vs : List Value) (o : Nat) (w : World) (cur : Array Value), w.heap[g]? = some (.cells cur e (0, 0)) → o + vs.length ≤ cur.size →
    ∃ cur', (w.setCells g o vs).heap[g]? = some (.cells cur' e (0, 0)) ∧ cur'.size = cur.size ∧ (∀ i, i < o ∨ o + vs.length ≤ i → cur'[i]? = cur[i]?) ∧ (∀ j, j < vs.length → cur'[o + j]? = vs[j]?) ∧ w.grownBy (w.setCells g o vs) (some g) ∧ (w.setCells g o vs).heap.size = w.heap.size
  | [], o, w, cur, h, _ => ⟨cur, h, rfl, fun _ _ => rfl, fun j hj => by simp at hj, ⟨rfl, rfl, rfl, Nat.le_refl _, fun _ _ _ => rfl⟩, rfl⟩
  | x :: r, o, w, cur, h, hle => by
    simp only [List.length_cons] at hle
    have h1 := heap_setCell_same w g o cur e x h
    obtain ⟨cur', g1, g2, g3, g4, g5, g6⟩ := setCells_row r (o + 1) (w.setCell ⟨g, o, none⟩ x) (cur.setIfInBounds o x) h1 (by simp; omega)
    refine ⟨cur', g1, by rw [g2]; simp, fun i hi => ?_, fun j hj => ?_, ?_, ?_⟩
    · simp only [List.length_cons] at hi
      rw [g3 i (by omega), Array.getElem?_setIfInBounds_ne (by omega)]
    · simp only [List.length_cons] at hj
      cases j with
      | zero =>
        rw [g3 (o + 0) (by omega)]
        simp [show o < cur.size by omega]
      | succ j =>
        rw [show o + (j + 1) = o + 1 + j by omega, g4 j (by omega)]; simp
    · exact grown_trans (b := w.setCell ⟨g, o, none⟩ x) ⟨rfl, rfl, rfl, by simp [World.setCell], fun k _ hr => heap_setCell_other w _ k _ fun e => hr (by rw [e])⟩ g5
    · show ((w.setCell ⟨g, o, none⟩ x).setCells g (o + 1) r).heap.size = w.heap.size
      rw [g6]; simp [World.setCell]
/-- 'append(v, x)' at a queue, x laid just before. -/
theorem wpList_pushQ {P : Program} {ops : Array Oper} {rest : List Oper} {o : Oper} {a : Act} {Q : Exit → Act → World → Prop} {W : World} {base n bytes z : Nat} {E T : TypeId} {v : Value} {xs : List Value}
    (hown : OwnQ W base E z v n xs) (cs : Array Value) (zv : Value) (hgd : o.guard = none) (s x : Operand)
    (ho : o.op = .call { callee := .builtin .append, args := #[s, x], argTypes := #[T, T] })
    (ht : P.underlying T = some (.slice E)) (hinfo : (P.info? E).map (fun i => (i.zero, i.size, i.bytes)) = some (some zv, z, bytes)) (hzc : zv.cells.size = z) (hz : 0 < z) (hby : bytes ≤ 1000)
    (hs : a.eval s = v) (hx : a.eval x = .slice (some ⟨W.heap.size, 0, none⟩) 1 1) (hcs : cs.size = z) (hone : cs.all (·.oneCell') = true) (hn : n < 4000000) (hbase : base ≤ W.heap.size)
    (h : ∀ v' w', OwnQ w' base E z v' (n + 1) (xs ++ cs.toList) → Below base W w' → W.grownBy w' v.ownBlock → wpList P ops Q rest (a.put o.dst v') w') :
    wpList P ops Q (o :: rest) a (W.alloc (.cells cs E)) := by
  obtain ⟨i0, hi, hz0, hz1, hz2⟩ := info_parts hinfo
  subst hz1
  have hq := ownQ_below hown ((Below.refl W.heap.size W).alloc (Nat.le_refl _) (.cells cs E))
  have hal : Below base W (W.alloc (.cells cs E)) := (Below.refl _ _).alloc hbase _
  have hlt := ownQ_lt hown
  obtain ⟨h0, g, q, cap, cur, rfl, hb, hg, h1, h2, h3, h4⟩ := hq
  have hnews : ∀ j u, cs.toList[j]? = some u → (W.alloc (.cells cs E)).cell? ((⟨W.heap.size, 0, none⟩ : Addr).add j) = some u := fun j u hj => by
    rw [addr_add, Nat.zero_add, cell_of_row _ W.heap.size j cs E (0, 0) (heap_alloc_new W _)]
    simpa using hj
  have hone' : ∀ u ∈ cs.toList, u.oneCell' = true := fun u hu => (Array.all_eq_true_iff_forall_mem.1 hone) u (by simpa using hu)
  have hlen : cs.toList.length = 1 * i0.size := by simpa using hcs
  have hn1 : (n + 1) * i0.size = n * i0.size + i0.size := by rw [Nat.add_mul, Nat.one_mul]
  refine wpList_plain hgd fun K hK => ?_
  unfold Oper.wp execOp
  simp only [ho, resolve, invoke, builtin, Sem.run_bind, Sem.run_pure, Result.andThen_ok, List.map_toArray, List.map_cons, List.map_nil, hs, hx]
  by_cases hroom : n + 1 ≤ cap
  · have hcz : (n + 1) * i0.size ≤ cap * i0.size := Nat.mul_le_mul_right _ hroom
    have hsz : ∀ j, j < cs.toList.length → q + n * i0.size + j < cur.size := fun j hj => by rw [hlen] at hj; omega
    have hr := run_append_room_cells (P := P) (w := W.alloc (.cells cs E)) T o.type E i0 ht hi g q n cap ⟨W.heap.size, 0, none⟩ 1 1 cs.toList hlen hnews hone' hroom
      (fun j hj => by rw [cell_of_row _ g _ _ _ _ hg, Array.getElem?_eq_getElem (hsz j hj)]; rfl) (fun j hj => frozen_of_row _ g _ _ _ hg)
    rw [hr]
    obtain ⟨cur', g1, g2, g3, g4, g5, g6⟩ := setCells_row cs.toList (q + n * i0.size) (W.alloc (.cells cs E)) cur hg (by rw [hlen]; omega)
    refine hK _ _ (h _ _ ⟨by rw [List.length_append, h0, hlen]; omega, g, q, cap, cur', rfl, hb, g1, hroom, h2, by omega, fun j hj => ?_⟩ (hal.grown g5 (by simp; omega) (fun k hk => by cases hk; exact (hlt g rfl).1)) (grown_trans (World.grownBy_alloc W _ _) g5))
    by_cases e : j < n * i0.size
    · rw [g3 (q + j) (by omega), h4 j e, List.getElem?_append_left (by omega)]
    · rw [List.getElem?_append_right (by omega), h0, show q + j = q + n * i0.size + (j - n * i0.size) by omega]
      exact g4 _ (by rw [hlen]; omega)
  · obtain ⟨v', w', hr, g1, g2⟩ := run_append_arg_grows (P := P) (w := W.alloc (.cells cs E)) T o.type E i0 zv i0.size bytes ht hi hz0 rfl hz2 hzc hz ⟨g, q, none⟩ n cap xs h0 (fun j u hj => by
      have hj' := (List.getElem?_eq_some_iff.1 hj).1
      rw [addr_add, cell_of_row _ g _ _ _ _ hg, h4 j (by omega)]; exact hj) ⟨W.heap.size, 0, none⟩ 1 1 cs.toList hlen hnews (by omega) (by unfold maxLen; omega) (by have : (n + 1) * bytes ≤ 4000000 * 1000 := Nat.mul_le_mul (by omega) hby; omega)
    rw [hr]
    have gg : W.grownBy w' none := grown_trans (World.grownBy_alloc W _ _) g2
    refine hK _ _ (h _ _ (ownQ_of (ownA_base g1 (by simp; omega)) (by omega)) (hal.grown g2 (by simp; omega) (fun k hk => by cases hk)) ⟨gg.os, gg.tape, gg.output, gg.size, fun k hk _ => gg.block k hk (by simp)⟩)
end Go.Proofs.YtcliiefedmiokaaGreat
