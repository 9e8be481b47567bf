/-
  Worlds that have grown: some draws, some blocks laid behind.
-/
import Derived.Test.YtnhijmhambggbaaVec
import Derived.Shelf.SlSortCmp.QuietGrown
namespace Go.Proofs.Ytnhijmhambggbaa
open Go.RowKit

/-- After some draws, with some blocks laid behind. -/
def GrownW (w w' : World) : Prop := ∃ q os, w' = Go.Sort.grow (w.drewN q) os
theorem grownW_refl (w : World) : GrownW w w := ⟨0, #[], by rw [Go.Sort.grow_empty]; rfl⟩
theorem grownW_grow (w : World) (q : Nat) (os : Array Obj) : GrownW w (Go.Sort.grow (w.drewN q) os) := ⟨q, os, rfl⟩
theorem grownW_trans {a b c : World} (h : GrownW a b) (k : GrownW b c) : GrownW a c := by
  obtain ⟨q, os, rfl⟩ := h
  obtain ⟨p, os', rfl⟩ := k
  exact ⟨q + p, os ++ os', by show Go.Sort.grow (Go.Sort.grow ((a.drewN q).drewN p) os) os' = _; rw [Go.Sort.grow_grow, World.drewN_drewN]⟩
theorem grownW_alloc (w : World) (o : Obj) : GrownW w (w.alloc o) := ⟨0, #[o], by rw [Go.Sort.alloc_eq_grow]; rfl⟩
theorem grownW_below {w w' : World} (h : GrownW w w') : Below w.heap.size w w' := by
  obtain ⟨q, os, rfl⟩ := h
  refine ⟨rfl, rfl, rfl, ?_, fun k hk => ?_⟩
  · show w.heap.size ≤ (w.heap ++ os).size
    rw [Array.size_append]; omega
  · show (w.heap ++ os)[k]? = _
    rw [Array.getElem?_append_left hk]
theorem quiet_of {P : Program} {f : FuncId} {args : Array Value} {w : World} {n : Nat} {os : Array Obj} {v : Value} (h : Calls P f args (Go.Sort.grow (w.drewN n) os) fun e w' => e = .returned v ∧ GrownW (Go.Sort.grow (w.drewN n) os) w') :
    Calls P f args (Go.Sort.grow (w.drewN n) os) fun e w'' => e = .returned v ∧ ∃ p : GrownBy, w'' = Go.Sort.grow (w.drewN p.n) p.os := Calls.grown_of h
end Go.Proofs.Ytnhijmhambggbaa
