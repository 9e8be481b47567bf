/-
  A slice of switches that comes in reads as a list of switches.
-/
import Derived.Test.YtnhijmhambggbaaSwL
import Derived.ProofKit
import Derived.OpenShut
import Derived.Deep.SlicePairs
import Derived.Lib.SmallJoins
namespace Go.Proofs.Ytnhijmhambggbaa
open Go.ChangeShapes Go.WideShapes Go.ChangeAt Go.RowKit Go.Deep Go.Joins

theorem Try.cellsLSw : Try.prog.cellsOf 48 = 4 := by kernel_rfl
instance : Inhabited Sw := ⟨zeroSw⟩
theorem swC_of {w : World} {x : Addr} {k : Nat} {s : Sw} (hx : x.spot = none) (h : ∀ j, j < 4 → (w.cell? ((x.add k).add j)) = [Value.int .i64 s.y1, .int .i64 s.y2, .int .i64 s.x1, .int .i64 s.x2][j]?) : SwC w x.block (x.off + k) s := by
  obtain ⟨g, o, sp⟩ := x
  simp only at hx
  subst hx
  have h0 := h 0 (by decide); have h1 := h 1 (by decide); have h2 := h 2 (by decide); have h3 := h 3 (by decide)
  rw [addr_add, addr_add] at h0 h1 h2 h3
  exact ⟨h0, h1, h2, h3⟩
set_option maxRecDepth 100000 in
theorem inSws_trod {H : Type} {enc : TypeId × Value → H} {W : World} {base : Nat} {sp : Nat → Bool} {hd : Bool} {a : Option Addr} {n c : Nat} {d : DataW H} {p : List MemPlace} (h : DataW.Trod enc Try.prog W base sp hd 58 (.slice a n c) d p) : ∃ l, InSws W (.slice a n c) l := by
  obtain ⟨fuel, hf⟩ := h
  rcases open_slice Try.underlying58 hf with ⟨hcs, _⟩ | ⟨x, len, cap, m, k, D, Pl, hcs, _, hl, hm, hmm, -, hx⟩
  · simp [Value.cells] at hcs
    obtain ⟨rfl, rfl, rfl⟩ := hcs
    exact ⟨[], inSws_nil _⟩
  · simp [Value.cells] at hcs
    obtain ⟨rfl, rfl, rfl⟩ := hcs
    have hlm : n ≤ m := by rw [hmm]; split <;> omega
    have hspot : 0 < n → x.spot = none := fun hn => by
      obtain ⟨cs', h1, -⟩ := hx 0 (by omega)
      rw [Try.cellsLSw] at h1
      obtain ⟨_, hlen, hcell⟩ := World.cells?_some h1
      have hc0 := hcell 0 (by omega)
      rw [List.getElem?_eq_getElem (by omega)] at hc0
      have := World.cell?_spot hc0
      simpa [Addr.add] using this
    have each : ∀ i, i < n → ∃ s : Sw, x.spot = none ∧ x.block < W.heap.size ∧ SwC W x.block (x.off + i * 4) s := by
      intro i hi
      obtain ⟨cs', h1, h2⟩ := hx i (by omega)
      rw [Try.cellsLSw] at h1
      obtain ⟨_, hlen, hcell⟩ := World.cells?_some h1
      obtain ⟨y0, y1, y2, y3, f, -, -, t0, t1, t2, t3⟩ := trod_struct4 Try.underlying48 h2
      have hC : Try.prog.cellsOf 3 = 1 := by kernel_rfl
      simp only [hC] at t0 t1 t2 t3
      obtain ⟨a0, e0, -, -⟩ := DataW.trod_int Try.underlying3 t0
      obtain ⟨a1, e1, -, -⟩ := DataW.trod_int Try.underlying3 t1
      obtain ⟨a2, e2, -, -⟩ := DataW.trod_int Try.underlying3 t2
      obtain ⟨a3, e3, -, -⟩ := DataW.trod_int Try.underlying3 t3
      match cs', hlen with
      | [v0, v1, v2, v3], _ =>
        simp at e0 e1 e2 e3
        subst e0; subst e1; subst e2; subst e3
        have hc0 := hcell 0 (by omega)
        refine ⟨⟨a0, a1, a2, a3⟩, hspot (by omega), ?_, swC_of (hspot (by omega)) fun j hj => ?_⟩
        · have := World.block_lt_of_cell? W _ hc0
          simp only [Addr.add] at this
          split at this <;> split at this <;> exact this
        · rw [hcell j hj]
    obtain ⟨q, hq⟩ := choose_lt each
    refine ⟨(List.range n).map q, some x, c, by simp, by simp; omega, ?_⟩
    by_cases h0 : n = 0
    · exact .inl (by simpa using h0)
    · obtain ⟨g1, g2, -⟩ := hq 0 (by omega)
      refine .inr ⟨x.block, x.off, ?_, g2, fun i hi => ?_⟩
      · obtain ⟨b, o, s⟩ := x
        simp only at g1
        subst g1; rfl
      · simp only [List.length_map, List.length_range] at hi
        have := (hq i hi).2.2
        simpa using this
end Go.Proofs.Ytnhijmhambggbaa
