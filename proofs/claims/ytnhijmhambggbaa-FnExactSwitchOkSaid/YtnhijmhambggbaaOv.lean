/-
  The frame behind a region that draws its order: the slots that the region writes, over the frame from before.
-/
import Derived.Test.YtnhijmhambggbaaObt
namespace Go.Proofs.Ytnhijmhambggbaa
open Go.RowKit

def ov (ks : List (Nat × Value)) : Nat → List Value → List Value
  | _, [] => []
  | i, x :: r => (match ks.lookup i with | some v => v | none => x) :: ov ks (i + 1) r
def KV (a' : Act) : List (Nat × Value) → Prop
  | [] => True
  | p :: r => a'.tmps.getD p.1 undef = p.2 ∧ KV a' r
theorem kv_lookup {a' : Act} : ∀ {ks : List (Nat × Value)}, KV a' ks → ∀ {i : Nat} {v : Value}, ks.lookup i = some v → a'.tmps.getD i undef = v
  | [], _, i, v, h => by simp at h
  | p :: r, hk, i, v, h => by
    rw [List.lookup_cons] at h
    by_cases e : i == p.1
    · rw [e] at h
      have e' := eq_of_beq e
      simp only [Option.some.injEq] at h
      subst h; subst e'
      exact hk.1
    · have e' : (i == p.1) = false := by simpa using e
      rw [e'] at h
      exact kv_lookup hk.2 h
theorem frameAt_ov {ops : Array Oper} {a a' : Act} {ks : List (Nat × Value)} (h3 : ∀ t, outside ops t = true → a'.tmps.getD t undef = a.tmps.getD t undef) (hv : KV a' ks) : ∀ (xs : List Value) (i : Nat),
    (∀ j, j < xs.length → outside ops (i + j) = true ∨ (ks.lookup (i + j)).isSome = true) → (∀ j, (h : j < xs.length) → a.tmps.getD (i + j) undef = xs[j]) → frameAt a' i (ov ks i xs)
  | [], _, _, _ => trivial
  | x :: r, i, ho, hx => by
    refine ⟨?_, ?_⟩
    · cases hl : ks.lookup i with
      | some v => exact kv_lookup hv hl
      | none =>
        rcases ho 0 (by simp) with h | h
        · rw [Nat.add_zero] at h
          rw [h3 i h]
          exact hx 0 (by simp)
        · rw [Nat.add_zero, hl] at h; cases h
    · refine frameAt_ov h3 hv r (i + 1) (fun j hj => ?_) (fun j hj => ?_)
      · have := ho (j + 1) (by simpa using hj)
        rwa [show i + (j + 1) = i + 1 + j by omega] at this
      · have := hx (j + 1) (by simpa using hj)
        rw [show i + (j + 1) = i + 1 + j by omega] at this
        simpa using this
theorem ov_len (ks : List (Nat × Value)) : ∀ (xs : List Value) (i : Nat), (ov ks i xs).length = xs.length
  | [], _ => rfl
  | _ :: r, i => by simp [ov, ov_len ks r]
theorem frame_ov {ops : Array Oper} {a a' : Act} {xs : List Value} {ds : List Deferred} (ha : a = ⟨xs.toArray, ds⟩) (h1 : a'.tmps.size = a.tmps.size) (h2 : a'.defers = a.defers) (h3 : ∀ t, outside ops t = true → a'.tmps.getD t undef = a.tmps.getD t undef)
    (ks : List (Nat × Value)) (hk : ((List.range xs.length).all fun t => outside ops t || (ks.map (·.1)).contains t) = true) (hv : KV a' ks) : a' = ⟨(ov ks 0 xs).toArray, ds⟩ := by
  subst ha
  refine frame_eq _ (by rw [h1, ov_len]; simp) h2 (frameAt_ov h3 hv xs 0 (fun j hj => ?_) fun j hj => ?_)
  · rw [Nat.zero_add]
    have := List.all_eq_true.1 hk j (List.mem_range.2 hj)
    rw [Bool.or_eq_true] at this
    rcases this with h | h
    · exact .inl h
    · right
      clear hk h1 h2 h3 hv
      induction ks with
      | nil => simp at h
      | cons p r ih =>
        rw [List.lookup_cons]
        by_cases e : j == p.1
        · rw [e]; rfl
        · have e' : (j == p.1) = false := by simpa using e
          rw [e']
          refine ih ?_
          simp only [List.map_cons, List.contains_cons, e', Bool.false_or] at h
          exact h
  · simp [hj]
theorem obt_assign {P : Program} {Q : Exit → Act → World → Prop} {base : List (Tmp × Value)} {dsts : List (Option Tmp)} {S : World → Prop} {fs : List FactP} {i : Nat} {o : Oper} {x : Operand} (v : Value) (ho : o.op = .assign x) (hf : factP fs i = isV v) (hg : o.guard = none) (hx : SrcT base dsts fs o x v) : Obt P Q base dsts S fs i o :=
  obt_run v hf hg fun a w _ hs => by unfold execOp; rw [ho]; simp only [hs x v hx]; rfl
/-- An operation whose one operand is what a forerunner has left, told by a fact. -/
theorem obt_from {P : Program} {Q : Exit → Act → World → Prop} {base : List (Tmp × Value)} {dsts : List (Option Tmp)} {S : World → Prop} {fs : List FactP} {i : Nat} {o : Oper} {d : Tmp} (j : Nat) (hg : o.guard = none) (h1 : dsts[j]? = some (some d)) (h2 : depT o j = true)
    (hr : ∀ (ρ : Operand → Value) (w : World) (u : Value), S w → ρ (.tmp d) = u → factP fs j u w → ∃ v, (execOp ρ o).run P w = .ok (.value v) w ∧ factP fs i v w) : Obt P Q base dsts S fs i o :=
  fun a w hS _ hD K hK => by
    obtain ⟨v, hv1, hv2⟩ := hr a.eval w _ hS rfl (hD j d h1 h2)
    exact ⟨.inl hg, run_value v hv1 (hK _ _ hS (fun _ _ h => h) hv2)⟩
theorem exec_moveV {P : Program} {ρ : Operand → Value} {o : Oper} {w : World} {x : Operand} {u : Value} (ho : o.op = .move x) (hx : ρ x = u) : (execOp ρ o).run P w = .ok (.value u) w := by
  unfold execOp; rw [ho]; simp only [hx]; rfl
theorem exec_assignV {P : Program} {ρ : Operand → Value} {o : Oper} {w : World} {x : Operand} {u : Value} (ho : o.op = .assign x) (hx : ρ x = u) : (execOp ρ o).run P w = .ok (.value u) w := by
  unfold execOp; rw [ho]; simp only [hx]; rfl
theorem exec_extract0 {P : Program} {ρ : Operand → Value} {o : Oper} {w : World} {x : Operand} {u v : Value} (ho : o.op = .extract x 0) (hx : ρ x = .tuple #[u, v]) : (execOp ρ o).run P w = .ok (.value u) w := by
  unfold execOp
  simp only [ho, hx]
  go_simp
theorem exec_extract1 {P : Program} {ρ : Operand → Value} {o : Oper} {w : World} {x : Operand} {u v : Value} (ho : o.op = .extract x 1) (hx : ρ x = .tuple #[u, v]) : (execOp ρ o).run P w = .ok (.value v) w := by
  unfold execOp
  simp only [ho, hx]
  go_simp
end Go.Proofs.Ytnhijmhambggbaa
