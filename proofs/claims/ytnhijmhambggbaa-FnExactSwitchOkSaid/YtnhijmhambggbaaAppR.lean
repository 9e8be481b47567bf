/-
  A slice of integers appended to a slice that the call owns.
-/
import Derived.Test.YtnhijmhambggbaaMat
namespace Go.Proofs.Ytnhijmhambggbaa
open Go.RowKit

/-- 'append(v, r...)' at a slice of the call's own, r a slice of integers. -/
theorem wpList_appendRow {P : Program} {ops : Array Oper} {rest : List Oper} {o : Oper} {a : Act} {Q : Exit → Act → World → Prop} {W : World} {base n bytes : Nat} {E T : TypeId} {v : Value} {xs : List Value} (d : Tmp) (_hd : o.dst = some d)
    (hown : W.ownsRow base E 1 v n xs) (r : List Int) (g b c : Nat) (z : Value) (hgd : o.guard = none) (s x : Operand)
    (ho : o.op = .call { callee := .builtin .append, args := #[s, x], argTypes := #[T, T] })
    (ht : P.underlying T = some (.slice E)) (hinfo : (P.info? E).map (fun i => (i.zero, i.size, i.bytes)) = some (some z, 1, bytes)) (hz : z.cells.size = 1) (hby : bytes ≤ 32)
    (hs : a.eval s = v) (hx : a.eval x = .slice (some ⟨g, b, none⟩) r.length c) (hr : ∀ j, (h : j < r.length) → W.cell? ⟨g, b + j, none⟩ = some (.int .i64 r[j])) (hn : n + r.length < 4000000) (hbase : base ≤ W.heap.size)
    (h : ∀ v' w', w'.ownsRow base E 1 v' (n + r.length) (xs ++ ints r) → Below base W w' → W.grownBy w' v.ownBlock → wpList P ops Q rest (a.put o.dst v') w') :
    wpList P ops Q (o :: rest) a W := by
  obtain ⟨i0, hi, hz0, hz1, hz2⟩ := info_parts hinfo
  refine wpList_append_own _ hgd s x T ho base E i0 z 1 bytes ht hi hz0 hz1 hz2 hz (by decide) v n xs hs hown ⟨g, b, none⟩ r.length c (ints r) hx (by simp [ints]) (fun j u hu => ?_) (fun u hu => ?_)
    (by unfold maxLen; omega) (by have : (n + r.length) * bytes ≤ 4000000 * 32 := Nat.mul_le_mul (by omega) hby; omega) hbase ?_
  · have hj : j < r.length := by have := (List.getElem?_eq_some_iff.1 hu).1; simpa [ints] using this
    rw [ints_at r j hj, Option.some.injEq] at hu
    subst hu
    rw [addr_add]; exact hr j hj
  · simp only [ints, List.mem_map] at hu
    obtain ⟨q, -, rfl⟩ := hu; rfl
  · intro v' w' hown' hg _
    exact h v' w' hown' ((Below.refl _ _).grown hg hbase (fun k hk => (hown.lt k hk).1)) hg
end Go.Proofs.Ytnhijmhambggbaa
