/-
  Lists of lists of integers in memory: what came in, and what the call owns.
-/
import Derived.Test.YtnhijmhambggbaaVec
namespace Go.Proofs.Ytnhijmhambggbaa
open Go.RowKit

def ints (r : List Int) : List Value := r.map (.int .i64)
theorem ints_len (r : List Int) : (ints r).length = r.length := by simp [ints]
theorem ints_at (r : List Int) (i : Nat) (h : i < r.length) : (ints r)[i]? = some (.int .i64 r[i]) := by simp [ints, h]
theorem ints_set (r : List Int) (i : Nat) (x : Int) : (ints r).set i (.int .i64 x) = ints (r.set i x) := by simp [ints, List.map_set]
theorem Try.infoInt : (Try.prog.info? 3).map (fun i => (i.zero, i.size, i.bytes)) = some (some (.int .i64 0), 1, 8) := by kernel_rfl
theorem Try.infoInts : (Try.prog.info? 25).map (fun i => (i.zero, i.size, i.bytes)) = some (some (.slice none 0 0), 1, 24) := by kernel_rfl

/-- The slice v reads as the integers r. -/
def InRow (w : World) (v : Value) (r : List Int) : Prop :=
  ∃ a c, v = .slice a r.length c ∧ r.length ≤ maxLen ∧ (r.length = 0 ∨ ∃ g o, a = some ⟨g, o, none⟩ ∧ g < w.heap.size ∧ ∀ i, (h : i < r.length) → w.cell? ⟨g, o + i, none⟩ = some (.int .i64 r[i]))
/-- The slice of slices v reads as m. -/
def InMat (w : World) (v : Value) (m : List (List Int)) : Prop :=
  ∃ a c, v = .slice a m.length c ∧ m.length ≤ maxLen ∧ (m.length = 0 ∨ ∃ g o, a = some ⟨g, o, none⟩ ∧ g < w.heap.size ∧ ∀ i, (h : i < m.length) → ∃ u, w.cell? ⟨g, o + i, none⟩ = some u ∧ InRow w u m[i])

theorem inRow_below {w w' : World} {v : Value} {r : List Int} (h : InRow w v r) (hb : Below w.heap.size w w') : InRow w' v r := by
  obtain ⟨a, c, hv, hm, hp⟩ := h
  refine ⟨a, c, hv, hm, ?_⟩
  rcases hp with h0 | ⟨g, o, ha, hg, hc⟩
  · exact .inl h0
  · exact .inr ⟨g, o, ha, Nat.lt_of_lt_of_le hg hb.size, fun i hi => below_cell hb hg (hc i hi)⟩
theorem inMat_below {w w' : World} {v : Value} {m : List (List Int)} (h : InMat w v m) (hb : Below w.heap.size w w') : InMat w' v m := by
  obtain ⟨a, c, hv, hm, hp⟩ := h
  refine ⟨a, c, hv, hm, ?_⟩
  rcases hp with h0 | ⟨g, o, ha, hg, hc⟩
  · exact .inl h0
  · refine .inr ⟨g, o, ha, Nat.lt_of_lt_of_le hg hb.size, fun i hi => ?_⟩
    obtain ⟨u, hu, hr⟩ := hc i hi
    exact ⟨u, below_cell hb hg hu, inRow_below hr hb⟩
theorem inRow_nil (w : World) : InRow w (.slice none 0 0) [] := ⟨none, 0, rfl, Nat.zero_le _, .inl rfl⟩
theorem inMat_nil (w : World) : InMat w (.slice none 0 0) [] := ⟨none, 0, rfl, Nat.zero_le _, .inl rfl⟩

/-- What 'open_int_rows' hands over. -/
theorem inMat_of {w : World} {base : Nat} {a : Addr} {len cap : Nat} {A : Nat → Option Addr} {L C : Nat → Nat} {Z : Nat → List Int} (hl : len ≤ cap) (hm : cap ≤ maxLen)
    (h : ∀ r, r < cap → w.cell? (a.add r) = some (.slice (A r) (L r) (C r)) ∧ L r ≤ C r ∧ C r ≤ maxLen ∧ (Z r).length = C r ∧ (∀ n ∈ Z r, (Lit.int .i64 n).wf = true) ∧ (A r = none → C r = 0) ∧
      ∀ a', A r = some a' → base ≤ a'.block ∧ ∀ c, c < C r → w.cell? (a'.add c) = some (.int .i64 ((Z r).getD c 0))) : ∃ m, InMat w (.slice (some a) len cap) m := by
  refine ⟨(List.range len).map fun r => (Z r).take (L r), some a, cap, by simp, by simp; omega, ?_⟩
  by_cases h0 : len = 0
  · exact .inl (by simpa using h0)
  · refine .inr ?_
    obtain ⟨g, o, spot⟩ := a
    have hc := (h 0 (by omega)).1
    have hspot : spot = none := by simpa [Addr.add] using World.cell?_spot hc
    subst hspot
    refine ⟨g, o, rfl, by simpa [Addr.add] using World.block_lt_of_cell? w _ hc, fun i hi => ?_⟩
    simp only [List.length_map, List.length_range] at hi
    obtain ⟨h1, h2, h3, h4, -, h5, h6⟩ := h i (by omega)
    rw [addr_add] at h1
    refine ⟨_, h1, ?_⟩
    simp only [List.getElem_map, List.getElem_range]
    have hlen : ((Z i).take (L i)).length = L i := by rw [List.length_take]; omega
    refine ⟨A i, C i, by rw [hlen], by omega, ?_⟩
    by_cases hz : L i = 0
    · exact .inl (by omega)
    · refine .inr ?_
      cases ha : A i with
      | none => have := h5 ha; omega
      | some a' =>
        obtain ⟨-, h7⟩ := h6 a' ha
        obtain ⟨g', o', spot'⟩ := a'
        have hc' := h7 0 (by omega)
        have hspot' : spot' = none := by simpa [Addr.add] using World.cell?_spot hc'
        subst hspot'
        refine ⟨g', o', rfl, by simpa [Addr.add] using World.block_lt_of_cell? w _ hc', fun j hj => ?_⟩
        have := h7 j (by omega)
        rw [addr_add] at this
        rw [this, List.getElem_take, List.getD_eq_getElem?_getD, List.getElem?_eq_getElem (by omega)]; rfl

theorem inRow_own {w : World} {base : Nat} {v : Value} {r : List Int} (h : w.ownsRow base 3 1 v r.length (ints r)) : InRow w v r := by
  rcases h.2 with ⟨rfl, h0⟩ | ⟨g, cap, cur, rfl, hbg, hg, hc, hm, _⟩
  · exact ⟨none, 0, by rw [h0], by omega, .inl h0⟩
  · refine ⟨_, _, rfl, by omega, .inr ⟨g, 0, rfl, (Array.getElem?_eq_some_iff.1 hg).1, fun i hi => ?_⟩⟩
    rw [Nat.zero_add, h.cellAt i (by omega), ints_at r i hi]

/-- The call owns the list of lists: the blocks of the outer one and of its rows lie from lo up to hi, and apart. -/
def OwnMat (w : World) (lo hi : Nat) (v : Value) (m : List (List Int)) : Prop :=
  ∃ vs : List Value, w.ownsRow lo 25 1 v m.length vs ∧ (∀ k, v.ownBlock = some k → k < hi) ∧
    (∀ i, (h : i < m.length) → w.ownsRow lo 3 1 (vs.getD i undef) m[i].length (ints m[i]) ∧ ∀ k, (vs.getD i undef).ownBlock = some k → k < hi) ∧
    ∀ i j, i < j → j < m.length → (vs.getD i undef).ownBlock = none ∨ (vs.getD i undef).ownBlock ≠ (vs.getD j undef).ownBlock
theorem ownMat_nil (w : World) (lo hi : Nat) : OwnMat w lo hi (.slice none 0 0) [] :=
  ⟨[], World.ownsRow_nil _ _ _ _, (fun k h => by simp [Value.ownBlock] at h), (fun i h => absurd h (Nat.not_lt_zero _)), fun i j _ h => absurd h (Nat.not_lt_zero _)⟩
theorem own_types {w : World} {b1 b2 e1 e2 n1 n2 : Nat} {v1 v2 : Value} {xs ys : List Value} (h1 : w.ownsRow b1 e1 1 v1 n1 xs) (h2 : w.ownsRow b2 e2 1 v2 n2 ys) (hne : e1 ≠ e2) : v1.ownBlock = none ∨ v1.ownBlock ≠ v2.ownBlock := by
  rcases h1.2 with ⟨rfl, _⟩ | ⟨g1, c1, cur1, rfl, _, hg1, _⟩
  · exact .inl rfl
  · rcases h2.2 with ⟨rfl, _⟩ | ⟨g2, c2, cur2, rfl, _, hg2, _⟩
    · exact .inr (by simp [Value.ownBlock])
    · refine .inr fun e => ?_
      simp only [Value.ownBlock, Option.some.injEq] at e
      subst e
      rw [hg1] at hg2
      simp only [Option.some.injEq, Obj.cells.injEq] at hg2
      exact hne hg2.2.1
theorem inMat_own {w : World} {lo hi : Nat} {v : Value} {m : List (List Int)} (h : OwnMat w lo hi v m) : InMat w v m := by
  obtain ⟨vs, ho, -, hr, -⟩ := h
  rcases ho.2 with ⟨rfl, h0⟩ | ⟨g, cap, cur, rfl, hbg, hg, hc, hm, _⟩
  · exact ⟨none, 0, by rw [h0], by omega, .inl h0⟩
  · refine ⟨_, _, rfl, by omega, .inr ⟨g, 0, rfl, (Array.getElem?_eq_some_iff.1 hg).1, fun i hi => ⟨vs.getD i undef, ?_, inRow_own (hr i hi).1⟩⟩⟩
    rw [Nat.zero_add]; exact cell_held ho hi

/-- What has turned lies from lo up to hi, or is new. -/
structure Within (lo hi : Nat) (w w' : World) : Prop where
  os : w'.os = w.os
  tape : w'.tape = w.tape
  output : w'.output = w.output
  size : w.heap.size ≤ w'.heap.size
  block : ∀ k, k < w.heap.size → (k < lo ∨ hi ≤ k) → w'.heap[k]? = w.heap[k]?
theorem within_refl (lo hi : Nat) (w : World) : Within lo hi w w := ⟨rfl, rfl, rfl, Nat.le_refl _, fun _ _ _ => rfl⟩
theorem within_trans {lo hi : Nat} {a b c : World} (h : Within lo hi a b) (k : Within lo hi b c) : Within lo hi a c :=
  ⟨k.os.trans h.os, k.tape.trans h.tape, k.output.trans h.output, Nat.le_trans h.size k.size, fun i hi hr => (k.block i (Nat.lt_of_lt_of_le hi h.size) hr).trans (h.block i hi hr)⟩
theorem within_below {lo hi : Nat} {w w' : World} (h : Below w.heap.size w w') : Within lo hi w w' := ⟨h.os, h.tape, h.output, h.size, fun k hk _ => h.block k hk⟩
theorem within_grown {lo hi : Nat} {w w' : World} {row : Option Nat} (h : w.grownBy w' row) (hr : ∀ k, row = some k → lo ≤ k ∧ k < hi) : Within lo hi w w' :=
  ⟨h.os, h.tape, h.output, h.size, fun k hk ho => h.block k hk fun e => by have := hr k e.symm; omega⟩
theorem below_within {lo hi B : Nat} {w w' : World} (h : Within lo hi w w') (hB : B ≤ lo) (hw : B ≤ w.heap.size) : Below B w w' :=
  ⟨h.os, h.tape, h.output, h.size, fun k hk => h.block k (by omega) (.inl (by omega))⟩
theorem own_within {lo hi base e n : Nat} {w w' : World} {v : Value} {xs : List Value} (h : w.ownsRow base e 1 v n xs) (hw : Within lo hi w w') (hk : ∀ k, v.ownBlock = some k → k < lo ∨ hi ≤ k) : w'.ownsRow base e 1 v n xs := by
  refine ⟨h.1, ?_⟩
  rcases h.2 with hn | ⟨g, cap, cur, rfl, hbg, hg, r⟩
  · exact .inl hn
  · exact .inr ⟨g, cap, cur, rfl, hbg, by rw [hw.block g (Array.getElem?_eq_some_iff.1 hg).1 (hk g rfl)]; exact hg, r⟩
theorem ownMat_within {lo hi lo' hi' : Nat} {w w' : World} {v : Value} {m : List (List Int)} (h : OwnMat w lo hi v m) (hw : Within lo' hi' w w') (ha : hi ≤ lo' ∨ hi' ≤ lo) : OwnMat w' lo hi v m := by
  obtain ⟨vs, ho, hoh, hr, hap⟩ := h
  refine ⟨vs, own_within ho hw (fun k e => ?_), hoh, fun i hi => ⟨own_within (hr i hi).1 hw (fun k e => ?_), (hr i hi).2⟩, hap⟩
  · have h1 := (ho.lt k e).1; have h2 := hoh k e; omega
  · have h1 := ((hr i hi).1.lt k e).1; have h2 := (hr i hi).2 k e; omega
theorem ownMat_below {lo hi : Nat} {w w' : World} {v : Value} {m : List (List Int)} (h : OwnMat w lo hi v m) (hw : Below w.heap.size w w') : OwnMat w' lo hi v m := by
  obtain ⟨vs, ho, hoh, hr, hap⟩ := h
  exact ⟨vs, own_below ho hw, hoh, fun i hi => ⟨own_below (hr i hi).1 hw, (hr i hi).2⟩, hap⟩
theorem ownMat_mono {lo hi lo' hi' : Nat} {w : World} {v : Value} {m : List (List Int)} (h : OwnMat w lo hi v m) (hl : lo' ≤ lo) (hh : hi ≤ hi') : OwnMat w lo' hi' v m := by
  obtain ⟨vs, ho, hoh, hr, hap⟩ := h
  exact ⟨vs, own_base ho hl, fun k e => Nat.lt_of_lt_of_le (hoh k e) hh, fun i hi => ⟨own_base (hr i hi).1 hl, fun k e => Nat.lt_of_lt_of_le ((hr i hi).2 k e) hh⟩, hap⟩

/-- A row of it. -/
theorem ownMat_row {w : World} {lo hi g n c : Nat} {m : List (List Int)} (h : OwnMat w lo hi (.slice (some ⟨g, 0, none⟩) n c) m) (i : Nat) (h' : i < m.length) :
    ∃ u, w.cell? ⟨g, i, none⟩ = some u ∧ w.frozen? ⟨g, i, none⟩ = false ∧ w.ownsRow lo 3 1 u m[i].length (ints m[i]) ∧ (∀ k, u.ownBlock = some k → k < hi) ∧
      ∀ w' r', w'.ownsRow lo 3 1 u m[i].length (ints r') → r'.length = m[i].length → w.grownBy w' u.ownBlock → OwnMat w' lo hi (.slice (some ⟨g, 0, none⟩) n c) (m.set i r') := by
  obtain ⟨vs, ho, hoh, hr, hap⟩ := h
  have hn : n = m.length := by
    rcases ho.2 with ⟨e, _⟩ | ⟨g', cap, cur, e, _⟩
    · cases e
    · cases e; rfl
  subst hn
  refine ⟨vs.getD i undef, cell_held ho h', ho.frozenAt i, (hr i h').1, (hr i h').2, fun w' r' hown hl hg => ⟨vs, ?_, hoh, fun j hj => ?_, fun a b hab hb => hap a b hab (by simpa using hb)⟩⟩
  · rw [List.length_set]
    exact ho.kept hg (own_types ho (hr i h').1 (by decide))
  · have hj' : j < m.length := by simpa using hj
    by_cases e : i = j
    · subst e
      simp only [List.getElem_set_self]
      exact ⟨hl ▸ hown, (hr i h').2⟩
    · simp only [List.getElem_set_ne e]
      refine ⟨(hr j hj').1.kept hg ?_, (hr j hj').2⟩
      by_cases hij : i < j
      · rcases hap i j hij hj' with h0 | h0
        · cases hv : (vs.getD j undef).ownBlock with
          | none => exact .inl rfl
          | some k => rw [h0]; exact .inr (by simp)
        · exact .inr (Ne.symm h0)
      · rcases hap j i (by omega) h' with h0 | h0
        · exact .inl h0
        · exact .inr h0

/-- A new row in the place of an old one. -/
theorem ownMat_put {w : World} {lo hi hi' g n c : Nat} {m : List (List Int)} {r : List Int} {u : Value} (h : OwnMat w lo hi (.slice (some ⟨g, 0, none⟩) n c) m) (i : Nat) (h' : i < m.length)
    (hu : w.ownsRow hi 3 1 u r.length (ints r)) (hlo : lo ≤ hi) (hsz : w.heap.size ≤ hi') (hh : hi ≤ hi') : OwnMat (w.setCell ⟨g, i, none⟩ u) lo hi' (.slice (some ⟨g, 0, none⟩) n c) (m.set i r) := by
  obtain ⟨vs, ho, hoh, hr, hap⟩ := h
  have hl : vs.length = m.length := by have := ho.1; omega
  have hn : n = m.length := by
    rcases ho.2 with ⟨e, _⟩ | ⟨g', cap, cur, e, _⟩
    · cases e
    · cases e; rfl
  subst hn
  obtain ⟨h1, h2⟩ := ho.stored i u
  refine ⟨vs.set i u, by rw [List.length_set]; exact h1, fun k e => Nat.lt_of_lt_of_le (hoh k e) hh, fun j hj => ?_, fun a b hab hb => ?_⟩
  · have hj' : j < m.length := by simpa using hj
    by_cases e : i = j
    · subst e
      have e1 : (vs.set i u).getD i undef = u := by simp [List.getD_eq_getElem?_getD, hl, h']
      rw [e1]; simp only [List.getElem_set_self]
      exact ⟨own_base (hu.kept h2 (own_types hu ho (by decide))) hlo, fun k hk => Nat.lt_of_lt_of_le (hu.lt k hk).2 hsz⟩
    · have e1 : (vs.set i u).getD j undef = vs.getD j undef := by simp [List.getD_eq_getElem?_getD, e]
      rw [e1]; simp only [List.getElem_set_ne e]
      exact ⟨(hr j hj').1.kept h2 (own_types (hr j hj').1 ho (by decide)), fun k hk => Nat.lt_of_lt_of_le ((hr j hj').2 k hk) hh⟩
  · have hb' : b < m.length := by simpa using hb
    by_cases ea : i = a
    · subst ea
      have e1 : (vs.set i u).getD i undef = u := by simp [List.getD_eq_getElem?_getD, hl, h']
      have e2 : (vs.set i u).getD b undef = vs.getD b undef := by simp [List.getD_eq_getElem?_getD, show i ≠ b by omega]
      rw [e1, e2]
      cases hk : u.ownBlock with
      | none => exact .inl rfl
      | some k =>
        refine .inr fun e => ?_
        have q1 := (hu.lt k hk).1; have q2 := (hr b hb').2 k e.symm; omega
    · have e1 : (vs.set i u).getD a undef = vs.getD a undef := by simp [List.getD_eq_getElem?_getD, ea]
      rw [e1]
      by_cases eb : i = b
      · subst eb
        have e2 : (vs.set i u).getD i undef = u := by simp [List.getD_eq_getElem?_getD, hl, h']
        rw [e2]
        cases hk : (vs.getD a undef).ownBlock with
        | none => exact .inl rfl
        | some k =>
          refine .inr fun e => ?_
          have q1 := (hu.lt k e.symm).1; have q2 := (hr a (by omega)).2 k hk; omega
      · have e2 : (vs.set i u).getD b undef = vs.getD b undef := by simp [List.getD_eq_getElem?_getD, eb]
        rw [e2]; exact hap a b hab hb'
/-- A new list of n empty rows. -/
theorem ownMat_fresh {w : World} {lo g n c : Nat} (hi : Nat) (h : w.ownsRow lo 25 1 (.slice (some ⟨g, 0, none⟩) n c) n (List.replicate n (.slice none 0 0))) (hg : g < hi) : OwnMat w lo hi (.slice (some ⟨g, 0, none⟩) n c) (List.replicate n []) := by
  refine ⟨_, by rw [List.length_replicate]; exact h, fun k e => ?_, fun i hi => ?_, fun i j _ hj => ?_⟩
  · simp only [Value.ownBlock, Option.some.injEq] at e; omega
  · have hi' : i < n := by simpa using hi
    have e1 : (List.replicate n (Value.slice none 0 0)).getD i undef = .slice none 0 0 := by simp [List.getD_eq_getElem?_getD, hi']
    rw [e1]; simp only [List.getElem_replicate]
    exact ⟨World.ownsRow_nil _ _ _ _, fun k e => by simp [Value.ownBlock] at e⟩
  · have hj' : j < n := by simpa using hj
    have e1 : (List.replicate n (Value.slice none 0 0)).getD i undef = .slice none 0 0 := by simp [List.getD_eq_getElem?_getD, show i < n by omega]
    rw [e1]; exact .inl rfl

/-- One row more: its slice has been appended. -/
theorem ownMat_push {w w' : World} {lo hi hi' : Nat} {v v' u : Value} {m : List (List Int)} {r : List Int} {vs : List Value}
    (hr : ∀ i, (h : i < m.length) → w.ownsRow lo 3 1 (vs.getD i undef) m[i].length (ints m[i]) ∧ ∀ k, (vs.getD i undef).ownBlock = some k → k < hi)
    (hap : ∀ i j, i < j → j < m.length → (vs.getD i undef).ownBlock = none ∨ (vs.getD i undef).ownBlock ≠ (vs.getD j undef).ownBlock)
    (hv : w.ownsRow lo 25 1 v m.length vs) (hu : w.ownsRow hi 3 1 u r.length (ints r)) (hlo : lo ≤ hi) (hsz : w.heap.size ≤ hi') (hh : hi ≤ hi')
    (hg : w.grownBy w' v.ownBlock) (ho : w'.ownsRow lo 25 1 v' (m.length + 1) (vs ++ [u])) (hoh : ∀ k, v'.ownBlock = some k → k < hi') : OwnMat w' lo hi' v' (m ++ [r]) := by
  have hl : vs.length = m.length := by have := hv.1; omega
  refine ⟨vs ++ [u], by simpa using ho, hoh, fun i h => ?_, fun i j hij hj => ?_⟩
  · by_cases e : i < m.length
    · have e1 : (vs ++ [u]).getD i undef = vs.getD i undef := by simp [List.getD_eq_getElem?_getD, List.getElem?_append_left (show i < vs.length by omega)]
      have e2 : (m ++ [r])[i] = m[i] := List.getElem_append_left e
      rw [e1, e2]
      refine ⟨(hr i e).1.kept hg ?_, fun k hk => Nat.lt_of_lt_of_le ((hr i e).2 k hk) hh⟩
      exact own_types (hr i e).1 hv (by decide)
    · have e0 : i = m.length := by simp at h; omega
      subst e0
      have e1 : (vs ++ [u]).getD m.length undef = u := by rw [← hl]; simp [List.getD_eq_getElem?_getD]
      have e2 : (m ++ [r])[m.length] = r := by simp
      rw [e1, e2]
      exact ⟨own_base (hu.kept hg (own_types hu hv (by decide))) hlo, fun k hk => Nat.lt_of_lt_of_le (hu.lt k hk).2 hsz⟩
  · have hi' : i < m.length := by simp at hj; omega
    have e1 : (vs ++ [u]).getD i undef = vs.getD i undef := by simp [List.getD_eq_getElem?_getD, List.getElem?_append_left (show i < vs.length by omega)]
    rw [e1]
    by_cases e : j < m.length
    · have e2 : (vs ++ [u]).getD j undef = vs.getD j undef := by simp [List.getD_eq_getElem?_getD, List.getElem?_append_left (show j < vs.length by omega)]
      rw [e2]; exact hap i j hij e
    · have e0 : j = m.length := by simp at hj; omega
      subst e0
      have e2 : (vs ++ [u]).getD m.length undef = u := by rw [← hl]; simp [List.getD_eq_getElem?_getD]
      rw [e2]
      cases hb : (vs.getD i undef).ownBlock with
      | none => exact .inl rfl
      | some k =>
        refine .inr fun e => ?_
        have h1 := (hr i hi').2 k hb; have h2 := (hu.lt k e.symm).1; omega
end Go.Proofs.Ytnhijmhambggbaa
