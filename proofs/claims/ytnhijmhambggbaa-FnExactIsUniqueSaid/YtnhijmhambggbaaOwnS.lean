/-
  Switches that a call owns, from one block up to another; what lies within.
-/
import Derived.Test.YtnhijmhambggbaaSwE
import Derived.Test.YtnhijmhambggbaaMat
namespace Go.Proofs.Ytnhijmhambggbaa
open Go.RowKit

theorem ownA_within {lo hi base e n z : Nat} {w w' : World} {v : Value} {xs : List Value} (h : w.ownsRow base e z v n xs) (hw : Within lo hi w w') (hk : ∀ k, v.ownBlock = some k → k < lo ∨ hi ≤ k) : w'.ownsRow base e z v n xs := by
  refine ⟨h.1, ?_⟩
  rcases h.2 with hn | ⟨g, cap, cur, rfl, hbg, hg, r⟩
  · exact .inl hn
  · exact .inr ⟨g, cap, cur, rfl, hbg, by rw [hw.block g (Array.getElem?_eq_some_iff.1 hg).1 (hk g rfl)]; exact hg, r⟩
/-- Switches of the call's own, in a block from lo up to hi. -/
def OwnS2 (w : World) (lo hi : Nat) (v : Value) (l : List Sw) : Prop := OwnSws w lo v l ∧ ∀ k, v.ownBlock = some k → k < hi
theorem ownS2_of {w : World} {lo : Nat} {v : Value} {l : List Sw} (h : OwnSws w lo v l) : OwnS2 w lo w.heap.size v l := ⟨h, fun k e => (World.ownsRow.lt h k e).2⟩
theorem ownS2_below {w w' : World} {lo hi : Nat} {v : Value} {l : List Sw} (h : OwnS2 w lo hi v l) (hb : Below w.heap.size w w') : OwnS2 w' lo hi v l := ⟨ownSws_below h.1 hb, h.2⟩
theorem ownS2_within {w w' : World} {lo hi lo' hi' : Nat} {v : Value} {l : List Sw} (h : OwnS2 w lo hi v l) (hw : Within lo' hi' w w') (ha : hi ≤ lo' ∨ hi' ≤ lo) : OwnS2 w' lo hi v l :=
  ⟨ownA_within h.1 hw fun k e => by have := h.2 k e; have := (World.ownsRow.lt h.1 k e).1; omega, h.2⟩
theorem within_own {w w' : World} {lo hi : Nat} {v : Value} {l : List Sw} (h : OwnS2 w lo hi v l) (hg : w.grownBy w' v.ownBlock) : Within lo hi w w' := within_grown hg fun k e => ⟨(World.ownsRow.lt h.1 k e).1, h.2 k e⟩
end Go.Proofs.Ytnhijmhambggbaa
