/-
  'm[k] += ..' in a region that draws its order: its operations.
-/
import Derived.Test.YteogbddbafkieaaLMap
import Derived.Test.YteogbddbafkieaaCountL
namespace Go.Proofs.Yteogbddbafkieaa
open Go.RowKit Go.Maps
open Go.ChangeMaps (setBlock)

/-- A slot's value, and what block b holds. -/
def isB (v : Value) (b : Nat) (E : Obj) : FactP := fun u w => u = v ∧ w.heap[b]? = some E
theorem stable_b (v : Value) (b : Nat) (E : Obj) : StableP (isB v b E) := fun _ _ _ hb h => ⟨h.1, (hb.block b (Array.getElem?_eq_some_iff.1 h.2).1).trans h.2⟩
/-- A fact that outlives the making of the entry. -/
def OutP (b : Nat) (E : Obj) (f : FactP) : Prop := ∀ (u : Value) (w : World) (E' : Obj), w.heap[b]? = some E' → f u w → f u (setBlock w b E)
theorem out_v (v : Value) (b : Nat) (E : Obj) : OutP b E (isV v) := fun _ _ _ _ h => h
theorem out_b (v : Value) (b : Nat) (E : Obj) : OutP b E (isB v b E) := fun _ _ _ he h => ⟨h.1, sb_same he⟩
theorem out_all {fs : List FactP} {b : Nat} {E : Obj} (h : ∀ f ∈ fs, OutP b E f) (j : Nat) : OutP b E (factP fs j) := by
  unfold factP
  rw [List.getD_eq_getElem?_getD]
  cases hj : fs[j]? with
  | none => exact out_v _ _ _
  | some f => exact h f (List.mem_of_getElem? hj)
theorem ent_below {w w' : World} {b : Nat} {E0 E1 : Obj} (h : w.heap[b]? = some E0 ∨ w.heap[b]? = some E1) (hb : Below w.heap.size w w') : w'.heap[b]? = some E0 ∨ w'.heap[b]? = some E1 :=
  h.imp (fun e => (hb.block b (Array.getElem?_eq_some_iff.1 e).1).trans e) (fun e => (hb.block b (Array.getElem?_eq_some_iff.1 e).1).trans e)

theorem exec_lookupK {ρ : Operand → Value} {o : Oper} {w : World} {m x : Operand} {b : Nat} {k : Key} {c : Int} (ho : o.op = .lookup 52 m x false) (hm : ρ m = .map (some b)) (hx : ρ x = keyV k)
    (hrun : (Instr.lookup 52 (.map (some b)) (keyV k) false).run Try.prog w = .ok (.int .i64 c) w) : (execOp ρ o).run Try.prog w = .ok (.value (.int .i64 c)) w := by
  unfold execOp
  simp only [ho, hm, hx]
  simp [hrun, Result.andThen]
section
variable {Q : Exit → Act → World → Prop} {base : List (Tmp × Value)} {dsts : List (Option Tmp)} {S : World → Prop} {fs : List FactP} {i : Nat} {o : Oper}
theorem obt_entry {m x : Operand} {b n st : Nat} {k : Key} {A : Key → Bool} {F : Key → Int} {E0 E1 : Obj} (hE : Ent b n k A F E0 E1 st) (ho : o.op = .mapEntry 52 m x) (hf : factP fs i = isB (.tuple #[.int .i64 (F k), .int .i64 st]) b E1) (hg : o.guard = none)
    (hm : SrcT base dsts fs o m (.map (some b))) (hx : SrcT base dsts fs o x (keyV k)) (hout : ∀ f ∈ fs, OutP b E1 f) (hS0 : ∀ w, S w → w.heap[b]? = some E0 ∨ w.heap[b]? = some E1) (hS1 : ∀ w, S w → S (setBlock w b E1)) : Obt Try.prog Q base dsts S fs i o :=
  fun a w hS hB hD K hK => by
    have hh := hS0 w hS
    obtain ⟨E', he'⟩ : ∃ E', w.heap[b]? = some E' := hh.elim (fun e => ⟨_, e⟩) (fun e => ⟨_, e⟩)
    refine ⟨.inl hg, run_value (.tuple #[.int .i64 (F k), .int .i64 st]) (w' := setBlock w b E1) ?_ (hK _ _ (hS1 w hS) (fun j u h => out_all hout j u w E' he' h) (by rw [hf]; exact ⟨rfl, sb_same he'⟩))⟩
    unfold execOp
    simp only [ho, srt_val hm hB hD, srt_val hx hB hD]
    simp [hE.entry w hh, Result.andThen]
/-- The stamp out of the entry. -/
theorem obt_stamp {d : Tmp} {b : Nat} {E : Obj} {u v : Value} (j : Nat) (ho : o.op = .extract (.tmp d) 1) (hf : factP fs i = isV v) (hg : o.guard = none) (h1 : dsts[j]? = some (some d)) (h2 : depT o j = true) (h3 : factP fs j = isB (.tuple #[u, v]) b E) : Obt Try.prog Q base dsts S fs i o :=
  fun a w hS hB hD K hK => by
    have hv : a.eval (.tmp d) = .tuple #[u, v] := by
      have := hD j d h1 h2
      rw [h3] at this; exact this.1
    refine ⟨.inl hg, run_value v ?_ (hK _ _ hS (fun j u h => h) (by rw [hf]; rfl))⟩
    unfold execOp
    simp only [ho, hv]
    go_simp
end
theorem exec_keyV {ρ : Operand → Value} {o : Oper} {w : World} {x y : Operand} {dx dy n : Int} (ho : o.op = .build 71 #[(0, x), (1, y)]) (hx : ρ x = .agg #[.int .i64 dx, .int .i64 dy]) (hy : ρ y = .int .i64 n) :
    (execOp ρ o).run Try.prog w = .ok (.value (keyV ⟨dx, dy, n⟩)) w := by
  unfold execOp keyV
  simp only [ho]
  go_simp
end Go.Proofs.Yteogbddbafkieaa
