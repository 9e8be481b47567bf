/-
  Texts of this claim, one behind the other: VisA, Visit, PathL, Pair, NearF, Stop, Price, Step.
-/
import Derived.Test.YtcliiefedmiokaaGreatPackU
import Derived.Test.YtcliiefedmiokaaGreatPackD
import Derived.Test.YtcliiefedmiokaaGreatPackT
import Derived.Laws.OwnMore
import Derived.Great.BuildSlice
import Derived.WalkMore
import Derived.Deep.LoopGhost
import Derived.Test.YtcliiefedmiokaaGreatPackR
import Derived.Test.YtcliiefedmiokaaGreatPackS
import Derived.Test.YtcliiefedmiokaaGreatPackP
import Derived.Test.YtcliiefedmiokaaGreatPackI
import Derived.Test.YtcliiefedmiokaaGreatPackF
import Derived.RangeFuncBox
/-
  What the model's search keeps: images and ways, both lists of the call's own.
-/
namespace Go.Proofs.YtcliiefedmiokaaGreat
open Go.RowKit
set_option maxRecDepth 100000

theorem Tryz.infoWay : (Tryz.prog.info? 73).map (fun i => (i.zero, i.size, i.bytes)) = some (some (.slice none 0 0), 1, 24) := by kernel_rfl
theorem grownA_kept {w w' : World} {b1 b2 e1 e2 n1 n2 z1 z2 : Nat} {v u : Value} {xs ys : List Value} (h : w.ownsRow b1 e1 z1 v n1 xs) (hu : w.ownsRow b2 e2 z2 u n2 ys) (hg : w.grownBy w' u.ownBlock) (hne : e1 ≠ e2) : w'.ownsRow b1 e1 z1 v n1 xs := h.kept hg (ownA_types h hu hne)
theorem own_at {w : World} {base e n : Nat} {v : Value} {xs : List Value} (h : w.ownsRow base e 1 v n xs) {i : Nat} (hi : i < n) : ∃ g c, v = .slice (some ⟨g, 0, none⟩) n c ∧ base ≤ g ∧ g < w.heap.size ∧ ∀ j, j < n → w.cell? ⟨g, j, none⟩ = some (xs.getD j undef) := by
  obtain ⟨g, c, rfl, h1, h2, -, -, h3, -⟩ := ownA_some h (by omega)
  refine ⟨g, c, rfl, h1, h2, fun j hj => ?_⟩
  have hl : xs.length = n := by have := h.1; omega
  rw [h3 j (by omega), List.getD_eq_getElem?_getD, List.getElem?_eq_getElem (show j < xs.length by omega)]; rfl
theorem own_max {w : World} {base e n z : Nat} {v : Value} {xs : List Value} (h : w.ownsRow base e z v n xs) : n ≤ maxLen := by
  rcases h.2 with ⟨-, h0⟩ | ⟨g, cap, cur, rfl, hbg, hg, hc, hm, _⟩
  · omega
  · omega

/-- A list of switches of the call's own that is not nil. -/
def OwnSwE (w : World) (lo : Nat) (v : Value) (l : List Sw) : Prop := OwnSws w lo v l ∧ ∃ g c, v = .slice (some ⟨g, 0, none⟩) l.length c
theorem ownSwE_below {w w' : World} {lo : Nat} {v : Value} {l : List Sw} (h : OwnSwE w lo v l) (hb : Below w.heap.size w w') : OwnSwE w' lo v l := ⟨ownSws_below h.1 hb, h.2⟩
theorem ownSwE_kept {w w' : World} {lo B e n z : Nat} {v u : Value} {l : List Sw} {xs : List Value} (h : OwnSwE w lo v l) (hu : w.ownsRow B e z u n xs) (hg : w.grownBy w' u.ownBlock) (hne : 77 ≠ e) : OwnSwE w' lo v l := ⟨grownA_kept h.1 hu hg hne, h.2⟩
theorem ownSwE_base {w : World} {lo lo' : Nat} {v : Value} {l : List Sw} (h : OwnSwE w lo v l) (hb : lo' ≤ lo) : OwnSwE w lo' v l := ⟨ownSws_base h.1 hb, h.2⟩
/-- Ways, one behind the other. -/
def OwnWs (w : World) (lo : Nat) (v : Value) (V : List (List Sw)) : Prop :=
  ∃ us : List Value, w.ownsRow lo 73 1 v V.length us ∧ ∀ i, (h : i < V.length) → OwnSwE w lo (us.getD i undef) V[i]
theorem ownWs_below {w w' : World} {lo : Nat} {v : Value} {V : List (List Sw)} (h : OwnWs w lo v V) (hb : Below w.heap.size w w') : OwnWs w' lo v V := by
  obtain ⟨us, h1, h2⟩ := h
  exact ⟨us, own_below h1 hb, fun i hi => ownSwE_below (h2 i hi) hb⟩
theorem ownWs_kept {w w' : World} {lo B e n z : Nat} {v u : Value} {V : List (List Sw)} {xs : List Value} (h : OwnWs w lo v V) (hu : w.ownsRow B e z u n xs) (hg : w.grownBy w' u.ownBlock) (h1 : 73 ≠ e) (h2 : 77 ≠ e) : OwnWs w' lo v V := by
  obtain ⟨us, g1, g2⟩ := h
  exact ⟨us, grownA_kept g1 hu hg h1, fun i hi => ownSwE_kept (g2 i hi) hu hg h2⟩
theorem ownImgs_kept {w w' : World} {lo B e n z : Nat} {v u : Value} {L : List (List (List Int))} {xs : List Value} (h : OwnImgs w lo v L) (hu : w.ownsRow B e z u n xs) (hg : w.grownBy w' u.ownBlock) (h1 : 22 ≠ e) (h2 : 30 ≠ e) (h3 : 3 ≠ e) : OwnImgs w' lo v L := by
  obtain ⟨us, g1, g2⟩ := h
  refine ⟨us, grownA_kept g1 hu hg h1, fun i hi => ?_⟩
  obtain ⟨hi', h0, vs, f1, f2, f3, f4⟩ := g2 i hi
  exact ⟨hi', Nat.le_trans h0 hg.size, vs, grownA_kept f1 hu hg h2, f2, fun i hi => ⟨grownA_kept (f3 i hi).1 hu hg h3, (f3 i hi).2⟩, f4⟩
theorem ownWs_push {w w' : World} {lo : Nat} {v v' u : Value} {us : List Value} {V : List (List Sw)} {p : List Sw} (hv : w.ownsRow lo 73 1 v V.length us) (hr : ∀ i, (h : i < V.length) → OwnSwE w lo (us.getD i undef) V[i]) (hu : OwnSwE w lo u p)
    (hg : w.grownBy w' v.ownBlock) (ho : w'.ownsRow lo 73 1 v' (V.length + 1) (us ++ [u])) : OwnWs w' lo v' (V ++ [p]) := by
  have hl : us.length = V.length := by have := hv.1; omega
  refine ⟨us ++ [u], by simpa using ho, fun i h => ?_⟩
  by_cases e : i < V.length
  · have e1 : (us ++ [u]).getD i undef = us.getD i undef := by simp [List.getD_eq_getElem?_getD, List.getElem?_append_left (show i < us.length by omega)]
    rw [e1, List.getElem_append_left e]
    exact ownSwE_kept (hr i e) hv hg (by decide)
  · obtain rfl : i = V.length := by simp at h; omega
    have e1 : (us ++ [u]).getD V.length undef = u := by rw [← hl]; simp [List.getD_eq_getElem?_getD]
    rw [e1, show (V ++ [p])[V.length] = p by simp]
    exact ownSwE_kept hu hv hg (by decide)
theorem ownWs_ways {w : World} {lo : Nat} {v : Value} {V : List (List Sw)} (h : OwnWs w lo v V) : OwnWays w lo v V := by
  obtain ⟨us, h1, h2⟩ := h
  obtain ⟨a, c, rfl⟩ := own_slice h1
  refine ⟨a, c, rfl, ?_⟩
  by_cases h0 : V.length = 0
  · exact .inl h0
  · right
    obtain ⟨g, c', e, -, hg, hc⟩ := own_at h1 (i := 0) (by omega)
    injection e with e1
    exact ⟨g, e1, hg, fun i hi => ⟨_, hc i hi, (h2 i hi).1⟩⟩
theorem ownImgs_in {w : World} {lo : Nat} {v : Value} {L : List (List (List Int))} (h : OwnImgs w lo v L) : InImgs w v L := by
  obtain ⟨us, h1, h2⟩ := h
  obtain ⟨a, c, rfl⟩ := own_slice h1
  refine ⟨a, c, rfl, own_max h1, ?_⟩
  by_cases h0 : L.length = 0
  · exact .inl h0
  · right
    obtain ⟨g, c', e, -, hg, hc⟩ := own_at h1 (i := 0) (by omega)
    injection e with e1
    exact ⟨g, 0, e1, hg, fun i hi => ⟨_, by rw [Nat.zero_add]; exact hc i hi, by obtain ⟨hi', -, h3⟩ := h2 i hi; exact inMat_own h3⟩⟩
theorem ownM2_slice {w : World} {lo : Nat} {v : Value} {m : List (List Int)} (h : OwnM2 w lo v m) : ∃ a n c, v = .slice a n c := by
  obtain ⟨hi, -, vs, h1, -⟩ := h
  obtain ⟨a, c, e⟩ := own_slice h1
  exact ⟨a, _, c, e⟩
theorem imgs_at {w : World} {lo a : Nat} {v : Value} {L : List (List (List Int))} (h : OwnImgs w lo v L) (ha : a < L.length) :
    ∃ g c xa xn xc, v = .slice (some ⟨g, 0, none⟩) L.length c ∧ g < w.heap.size ∧ w.cell? ⟨g, a, none⟩ = some (.slice xa xn xc) ∧ OwnM2 w lo (.slice xa xn xc) (L.getD a []) := by
  obtain ⟨us, h1, h2⟩ := h
  obtain ⟨g, c, rfl, -, hg, hc⟩ := own_at h1 ha
  obtain ⟨xa, xn, xc, e⟩ := ownM2_slice (h2 a ha)
  have h3 := h2 a ha
  rw [e] at h3
  exact ⟨g, c, xa, xn, xc, rfl, hg, by rw [hc a ha, e], by rwa [List.getD_eq_getElem?_getD, List.getElem?_eq_getElem ha]⟩
theorem ways_at {w : World} {lo a : Nat} {v : Value} {V : List (List Sw)} (h : OwnWs w lo v V) (ha : a < V.length) :
    ∃ g c gp pc, v = .slice (some ⟨g, 0, none⟩) V.length c ∧ g < w.heap.size ∧ w.cell? ⟨g, a, none⟩ = some (.slice (some ⟨gp, 0, none⟩) (V.getD a []).length pc) ∧ OwnSws w lo (.slice (some ⟨gp, 0, none⟩) (V.getD a []).length pc) (V.getD a []) := by
  obtain ⟨us, h1, h2⟩ := h
  obtain ⟨g, c, rfl, -, hg, hc⟩ := own_at h1 ha
  obtain ⟨h3, gp, pc, e⟩ := h2 a ha
  have e2 : V.getD a [] = V[a] := by rw [List.getD_eq_getElem?_getD, List.getElem?_eq_getElem ha]; rfl
  rw [e] at h3
  refine ⟨g, c, gp, pc, rfl, hg, by rw [hc a ha, e, e2], by rw [e2]; exact h3⟩

/-- What stands through the search. -/
def VSt (w : World) (L : List (List (List Int))) (W : List (List Sw)) (lv wv : Value) (w' : World) : Prop := OwnImgs w' w.heap.size lv L ∧ OwnWs w' w.heap.size wv W ∧ Below w.heap.size w w'
theorem vst_below {w w1 w2 : World} {L : List (List (List Int))} {W : List (List Sw)} {lv wv : Value} (h : VSt w L W lv wv w1) (hb : Below w1.heap.size w1 w2) : VSt w L W lv wv w2 :=
  ⟨ownImgs_below h.1 hb, ownWs_below h.2.1 hb, h.2.2.trans (hb.mono h.2.2.size)⟩

theorem specSwitches_node {R C : Nat} {x : List (List Int)} (v : Value) (w : World) (hin : InMat w v x) (h : Node R C x) : Calls Tryz.prog 63 #[v] w (SwsRes (swsM x) w) := by
  obtain ⟨f, rfl, hI⟩ := h
  exact specSwitchesOf_yes v R C f w hin hI
theorem specApply_node {R C : Nat} {x : List (List Int)} {s : Sw} (v : Value) (w : World) (hin : InMat w v x) (h : Node R C x) (hs : swB x s = true) : Calls Tryz.prog 64 #[v, swV s] w (MatRes (flipM x s) w) := by
  obtain ⟨f, rfl, hI⟩ := h
  rw [swB_mk hI] at hs
  rw [flipM_mk hI]
  exact specApply_img v R C f s w hin hI hs
theorem bfs_wlen {m : List (List Int)} {L : List (List (List Int))} {W : List (List Sw)} {a K : Nat} (h : Bfs m L W a K) : ∀ i, i < L.length → (W.getD i []).length ≤ i := by
  intro i
  induction i using Nat.strongRecOn with
  | ind i ih =>
    intro hi
    rcases h.tree i hi with ⟨e, -⟩ | ⟨j, s, hj, e, -, -⟩
    · rw [e]; exact Nat.zero_le _
    · have := ih j hj (by omega)
      rw [e, List.length_append, List.length_singleton]; omega

/-- An image of the call's own. -/
def imgNew (B : Nat) (m : List (List Int)) : FactP := fun u w2 => OwnM2 w2 B u m
theorem stable_imgNew (B : Nat) (m : List (List Int)) : StableP (imgNew B m) := fun _ _ _ hb h => ownM2_below h hb
/-- An empty list of switches, new. -/
def emptyF (B : Nat) : FactP := fun u w2 => ∃ g, u = .slice (some ⟨g, 0, none⟩) 0 0 ∧ B ≤ g ∧ w2.heap[g]? = some (.cells #[] 77 (0, 0))
theorem stable_emptyF (B : Nat) : StableP (emptyF B) := fun _ _ _ hb h => by
  obtain ⟨g, h1, h2, h3⟩ := h
  exact ⟨g, h1, h2, by rw [hb.block g (Array.getElem?_eq_some_iff.1 h3).1]; exact h3⟩
/-- A list of one switch, new. -/
def oneF (B : Nat) (s : Sw) : FactP := fun u w2 => ∃ b, u = .slice (some ⟨b, 0, none⟩) 1 1 ∧ B ≤ b ∧ SwAt w2 b s
theorem stable_oneF (B : Nat) (s : Sw) : StableP (oneF B s) := fun _ _ _ hb h => by
  obtain ⟨b, h1, h2, h3⟩ := h
  exact ⟨b, h1, h2, swAt_below h3 hb⟩
def swsF (B : Nat) (p : List Sw) : FactP := fun u w2 => OwnSwE w2 B u p
theorem stable_swsF (B : Nat) (p : List Sw) : StableP (swsF B p) := fun _ _ _ hb h => ownSwE_below h hb
/-- A list of one way, new. -/
def oneWayF (B : Nat) (p : List Sw) : FactP := fun u w2 => ∃ b e, u = .slice (some ⟨b, 0, none⟩) 1 1 ∧ b < w2.heap.size ∧ w2.cell? ⟨b, 0, none⟩ = some e ∧ OwnSwE w2 B e p
theorem stable_oneWayF (B : Nat) (p : List Sw) : StableP (oneWayF B p) := fun _ _ _ hb h => by
  obtain ⟨b, e, h1, h2, h3, h4⟩ := h
  exact ⟨b, e, h1, Nat.lt_of_lt_of_le h2 hb.size, below_cell hb h2 h3, ownSwE_below h4 hb⟩
/-- The ways with one more. -/
def waysF (W : World) (lo : Nat) (v : Value) (V : List (List Sw)) : FactP := fun u w2 => W.grownBy w2 v.ownBlock ∧ OwnWs w2 lo u V
theorem stable_waysF (W : World) (lo : Nat) (v : Value) (V : List (List Sw)) : StableP (waysF W lo v V) := fun _ _ _ hb h => ⟨grown_trans h.1 (grown_of_below hb _), ownWs_below h.2 hb⟩

theorem exec_buildNoSw {ρ : Operand → Value} {o : Oper} {w : World} (ho : o.op = .buildSlice 73 0 #[]) :
    (execOp ρ o).run Tryz.prog w = .ok (.value (.slice (some ⟨w.heap.size, 0, none⟩) 0 0)) (w.alloc (.cells #[] 77)) := by
  unfold execOp
  simp only [ho]
  go_simp
theorem exec_buildSw {ρ : Operand → Value} {o : Oper} {w : World} {x : Operand} {s : Sw} (ho : o.op = .buildSlice 73 1 #[(0, x)]) (hx : ρ x = swV s) :
    (execOp ρ o).run Tryz.prog w = .ok (.value (.slice (some ⟨w.heap.size, 0, none⟩) 1 1)) (w.alloc (.cells (swA s) 77)) := by
  unfold swV swA at hx
  unfold execOp swA
  simp only [ho]
  go_simp
theorem cellsS_one (l : List Sw) : ∀ u ∈ cellsS l, u.oneCell' = true := by
  intro u hu
  unfold cellsS at hu
  obtain ⟨s, -, h⟩ := List.mem_flatMap.1 hu
  simp only [List.mem_cons, List.not_mem_nil, or_false] at h
  rcases h with rfl | rfl | rfl | rfl <;> rfl
theorem swE_of {w : World} {B : Nat} {v : Value} {l : List Sw} (h : OwnSws w B v l) (hne : v ≠ .slice none 0 0) : OwnSwE w B v l := by
  refine ⟨h, ?_⟩
  rcases h.2 with ⟨e, -⟩ | ⟨g, cap, cur, e, -⟩
  · exact absurd e hne
  · exact ⟨g, cap, e⟩
/-- 'append(v, x...)' at switches. -/
theorem exec_appSws (ty : TypeId) {W : World} {B lo m gp c : Nat} {v : Value} {p q : List Sw}
    (hv : OwnSwE W B v p) (hp : OwnSws W lo (.slice (some ⟨gp, 0, none⟩) m c) q) (hB : B ≤ W.heap.size) (hn : p.length + q.length ≤ 4000000) :
    ∃ v' w', (∀ (ρ : Operand → Value) (o : Oper) (x y : Operand), o.op = .call { callee := .builtin .append, args := #[x, y], argTypes := #[73, 73] } → o.type = ty → ρ x = v → ρ y = .slice (some ⟨gp, 0, none⟩) m c → (execOp ρ o).run Tryz.prog W = .ok (.value v') w') ∧ OwnSwE w' B v' (p ++ q) ∧ W.grownBy w' v.ownBlock := by
  obtain ⟨i0, hi, hz0, hz1, hz2⟩ := info_parts Tryz.infoSw
  have hm : m = q.length := by
    rcases hp.2 with ⟨e, -⟩ | ⟨g, cap, cur, e, -⟩
    · cases e
    · cases e; rfl
  subst hm
  obtain ⟨hv1, g, cv, rfl⟩ := hv
  obtain ⟨v', w', hr, g1, g2, g3⟩ := run_append_own (P := Tryz.prog) W B 73 ty 77 i0 _ 4 32 Tryz.underlying73 hi hz0 hz1 hz2 rfl (by decide) _ p.length (cellsS p) hv1 ⟨gp, 0, none⟩ q.length c (cellsS q) (cellsS_len q) (fun j u hj => by
      rw [addr_add, Nat.zero_add]
      have hj' : j < q.length * 4 := by have := (List.getElem?_eq_some_iff.1 hj).1; rwa [cellsS_len] at this
      rw [World.ownsRow.cellAt hp j hj', hj]) (cellsS_one q) (by unfold maxLen; omega) (by omega) hB
  refine ⟨v', w', ?_, swE_of ?_ ?_, g2⟩
  · intro ρ o x y ho ht hx hy
    subst ht
    unfold execOp
    simp only [ho, resolve, invoke, builtin, Sem.run_bind, Sem.run_pure, Result.andThen_ok, List.map_toArray, List.map_cons, List.map_nil, hx, hy, hr]
  · unfold OwnSws
    rw [List.length_append, show cellsS (p ++ q) = cellsS p ++ cellsS q by simp [cellsS]]
    exact g1
  · intro e
    have := (g3.1 e).1
    cases this
/-- A list of one switch, to be read. -/
theorem oneF_own {w : World} {b : Nat} {s : Sw} (h : SwAt w b s) : OwnSws w 0 (.slice (some ⟨b, 0, none⟩) 1 1) [s] :=
  ⟨rfl, .inr ⟨b, 1, swA s, rfl, Nat.zero_le _, h, Nat.le_refl _, by decide, rfl, rfl⟩⟩
theorem emptyF_own {w : World} {g B : Nat} (h : w.heap[g]? = some (.cells #[] 77 (0, 0))) (hB : B ≤ g) : OwnSwE w B (.slice (some ⟨g, 0, none⟩) 0 0) [] :=
  ⟨⟨rfl, .inr ⟨g, 0, #[], rfl, hB, h, Nat.le_refl _, by decide, rfl, rfl⟩⟩, g, 0, rfl⟩
theorem oneF_far {w w' : World} {B g : Nat} {s : Sw} {u : Value} (h : oneF B s u w) (hg : w.heap[g]? = some (.cells #[] 77 (0, 0))) (hw : w.grownBy w' (some g)) : oneF B s u w' := by
  obtain ⟨b, h1, h2, h3⟩ := h
  refine ⟨b, h1, h2, ?_⟩
  have hne : b ≠ g := by
    intro e
    subst e
    unfold SwAt at h3
    rw [h3] at hg
    simp [swA] at hg
  unfold SwAt at h3 ⊢
  rw [hw.block b (Array.getElem?_eq_some_iff.1 h3).1 (fun e => hne (Option.some.inj e))]
  exact h3
end Go.Proofs.YtcliiefedmiokaaGreat
/-
  l06Visit of the model: a search in breadth over two lists.
-/
namespace Go.Proofs.YtcliiefedmiokaaGreat
open Go.RowKit

theorem visit_start {w w1 : World} {u : Value} {m : List (List Int)} (hu : OwnMat w1 w.heap.size w1.heap.size u m) (hb : Below w.heap.size w w1) :
    VSt w [m] [[]] (.slice (some ⟨w1.heap.size, 0, none⟩) 1 1) (.slice (some ⟨w1.heap.size + 2, 0, none⟩) 1 1) (((w1.alloc (.cells #[u] 22)).alloc (.cells #[] 77)).alloc (.cells #[.slice (some ⟨w1.heap.size + 1, 0, none⟩) 0 0] 73)) := by
  have hz := hb.size
  obtain ⟨w2, h2⟩ : ∃ w2, w2 = w1.alloc (.cells #[u] 22) := ⟨_, rfl⟩
  have a2 : Below w1.heap.size w1 w2 := by rw [h2]; exact (Below.refl _ _).alloc (Nat.le_refl _) _
  have s2 : w2.heap.size = w1.heap.size + 1 := by rw [h2]; simp
  have o2 : w2.ownsRow w.heap.size 22 1 (.slice (some ⟨w1.heap.size, 0, none⟩) 1 1) 1 [u] := by rw [h2]; exact World.ownsRow_lit w1 #[u] 1 hz (by decide) rfl
  rw [← h2]; clear h2
  obtain ⟨w3, h3⟩ : ∃ w3, w3 = w2.alloc (.cells #[] 77) := ⟨_, rfl⟩
  have a3 : Below w2.heap.size w2 w3 := by rw [h3]; exact (Below.refl _ _).alloc (Nat.le_refl _) _
  have s3 : w3.heap.size = w2.heap.size + 1 := by rw [h3]; simp
  have o3 : w3.heap[w1.heap.size + 1]? = some (.cells #[] 77 (0, 0)) := by rw [h3, ← s2]; exact heap_alloc_new w2 _
  rw [← h3]; clear h3
  have a4 := (Below.refl w3.heap.size w3).alloc (Nat.le_refl _) (.cells #[.slice (some ⟨w1.heap.size + 1, 0, none⟩) 0 0] 73)
  have o4 := World.ownsRow_lit (base := w.heap.size) (e := 73) (size := 1) w3 #[.slice (some ⟨w1.heap.size + 1, 0, none⟩) 0 0] 1 (by omega) (by decide) rfl
  rw [show w3.heap.size = w1.heap.size + 2 by omega] at o4
  have b3 := a2.trans (a3.mono a2.size)
  have b4 := b3.trans (a4.mono b3.size)
  refine ⟨⟨[u], own_below (own_below o2 a3) a4, fun i hi => ?_⟩, ⟨[.slice (some ⟨w1.heap.size + 1, 0, none⟩) 0 0], o4, fun i hi => ?_⟩, hb.trans (b4.mono hb.size)⟩
  · obtain rfl : i = 0 := by simpa using hi
    exact ⟨w1.heap.size, b4.size, ownMat_below hu b4⟩
  · obtain rfl : i = 0 := by simpa using hi
    exact ownSwE_below (emptyF_own o3 (by omega)) a4
theorem swAt_kept {w w' : World} {B e n z g : Nat} {u : Value} {s : Sw} {xs : List Value} (h : SwAt w g s) (hu : w.ownsRow B e z u n xs) (hg : w.grownBy w' u.ownBlock) (hne : 77 ≠ e) : SwAt w' g s := by
  have := grownA_kept (oneF_own h) hu hg hne
  unfold SwAt at h ⊢
  rw [hg.block g (Array.getElem?_eq_some_iff.1 h).1 ?_]
  · exact h
  · intro e'
    rcases ownA_types (oneF_own h) hu hne with h1 | h1
    · simp [Value.ownBlock] at h1
    · exact h1 e'
theorem below_push {B e n z : Nat} {w w1 w2 : World} {u : Value} {xs : List Value} (h : Below B w w1) (hu : w1.ownsRow B e z u n xs) (hg : w1.grownBy w2 u.ownBlock) (hB : B ≤ w.heap.size) : Below B w w2 := h.grown hg (Nat.le_trans hB h.size) fun k hk => (hu.lt k hk).1
end Go.Proofs.YtcliiefedmiokaaGreat
/-
  PathTo and NextTo of both answer the same.
-/
namespace Go.Proofs.YtcliiefedmiokaaGreat
open Go.RowKit

/-- What PathTo lists. -/
def PathOf (m l : List (List Int)) (P : List Sw) : Prop := (pathB m l = true → Best m l P) ∧ (pathB m l = false → P = [])
open Classical in
noncomputable def pathL (m l : List (List Int)) : List Sw := if h : ∃ P, PathOf m l P then h.choose else []
theorem pathB_node {m l : List (List Int)} (h : pathB m l = true) : ∃ R C f g, m = mkM R C f ∧ l = mkM R C g ∧ Img R C f ∧ Img R C g ∧ SameF R C f g ∧ R ≤ 4 ∧ C ≤ 4 := by
  unfold pathB at h
  rw [Bool.and_eq_true] at h
  obtain ⟨R, C, f, g, rfl, rfl, hI, hJ, hs⟩ := sameB_yes h.1
  have h2 := h.2
  rw [mkM_len, width_mk hI] at h2
  simp only [Bool.and_eq_true, decide_eq_true_eq] at h2
  exact ⟨R, C, f, g, rfl, rfl, hI, hJ, hs, h2.1, h2.2⟩
theorem path_uniq {m l : List (List Int)} {P Q : List Sw} (h1 : PathOf m l P) (h2 : PathOf m l Q) : P = Q := by
  cases h : pathB m l with
  | false => rw [h1.2 h, h2.2 h]
  | true =>
    obtain ⟨R, C, f, g, rfl, rfl, hI, -⟩ := pathB_node h
    exact best_one ⟨f, rfl, hI⟩ (h1.1 h) (h2.1 h)
theorem path_one {m l : List (List Int)} {P : List Sw} (h : PathOf m l P) : P = pathL m l := by
  have hex : ∃ P, PathOf m l P := ⟨P, h⟩
  unfold pathL
  rw [dif_pos hex]
  exact path_uniq h hex.choose_spec
theorem path_len {m l : List (List Int)} {P : List Sw} (h : PathOf m l P) : P.length ≤ 12 := by
  cases hb : pathB m l with
  | false => rw [h.2 hb]; exact Nat.zero_le _
  | true =>
    have hp := h.1 hb
    obtain ⟨R, C, f, g, rfl, rfl, hI, hJ, hs, -⟩ := pathB_node hb
    obtain ⟨q, hq, hl⟩ := joined _ f g (Nat.le_refl _) hI hJ hs
    have h1 := best_len ⟨f, rfl, hI⟩ hp hq
    have h2 : diff R C f g ≤ 25 := cnt_le _ _
    omega
theorem pathL_len (m l : List (List Int)) : (pathL m l).length ≤ 12 := by
  unfold pathL
  split
  · rename_i h; exact path_len h.choose_spec
  · exact Nat.zero_le _
def PathAns (m l : List (List Int)) (w : World) (e : Ending) (w' : World) : Prop := ∃ v, e = .returned (.tuple #[v, .bool (pathB m l)]) ∧ OwnSws w' w.heap.size v (pathL m l) ∧ Below w.heap.size w w'
theorem pathAns {m l : List (List Int)} {w w' : World} {e : Ending} (h : PathRes m l w e w') : PathAns m l w e w' := by
  obtain ⟨v, P, rfl, h1, h2, h3, h4⟩ := h
  rw [path_one ⟨h3, h4⟩] at h1
  exact ⟨v, rfl, h1, h2⟩
def NextAns (m l : List (List Int)) (w : World) (e : Ending) (w' : World) : Prop := e = .returned (.tuple #[swV ((pathL m l).headD zeroSw), .bool (!(pathL m l).isEmpty)]) ∧ Below w.heap.size w w'
theorem nextAns {m l : List (List Int)} {w w' : World} {e : Ending} (h : NextRes m l w e w') : NextAns m l w e w' := by
  obtain ⟨P, rfl, h2, h3, h4⟩ := h
  obtain rfl := path_one ⟨h3, h4⟩
  exact ⟨rfl, h2⟩
end Go.Proofs.YtcliiefedmiokaaGreat
/-
  MakePair: two images that switches join.
-/
namespace Go.Proofs.YtcliiefedmiokaaGreat
open Go.RowKit
set_option maxRecDepth 100000

theorem small_num : ((List.range 625).filter fun i => decide (i / 125 ≤ 3 ∧ i / 25 % 5 ≤ 3 ∧ i / 5 % 5 ≤ 3 ∧ i % 5 ≤ 3)).length = 256 := by decide +kernel
theorem len_mono {α : Type} {p q : α → Bool} (h : ∀ x, p x = true → q x = true) : ∀ l : List α, (l.filter p).length ≤ (l.filter q).length
  | [] => Nat.le_refl _
  | x :: l => by
    have := len_mono h l
    cases hp : p x with
    | false =>
      cases hq : q x with
      | false => simpa [List.filter_cons, hp, hq] using this
      | true => simp only [List.filter_cons, hp, hq, if_true, List.length_cons, Bool.false_eq_true, if_false]; omega
    | true => simp only [List.filter_cons, hp, h x hp, if_true, List.length_cons]; omega
theorem sws_small {R C : Nat} {f : Nat → Nat → Int} (hI : Img R C f) (hR : R ≤ 4) (hC : C ≤ 4) : (swsM (mkM R C f)).length ≤ 256 := by
  unfold swsM upS
  rw [List.length_map, ← small_num]
  refine len_mono (fun i h => ?_) _
  obtain ⟨h1, h2, h3, h4⟩ := swB_dec hI h
  rw [decide_eq_true_eq]
  omega
theorem sameF_flipF {R C : Nat} {f g : Nat → Nat → Int} {s : Sw} (hI : Img R C g) (h : SameF R C f g) (hs : swF R C g s = true) : SameF R C f (flipF g s) := by
  obtain ⟨a, b, c, d, rfl, h4⟩ := swF_iff.1 hs
  exact sameF_trans h (sameF_symm (sameF_flip h4 hI))
/-- What MakePair answers. -/
def PairRes (w : World) (e : Ending) (w' : World) : Prop :=
  ∃ (v u : Value) (R C : Nat) (f g : Nat → Nat → Int), e = .returned (.tuple #[v, u]) ∧ Img R C f ∧ Img R C g ∧ SameF R C f g ∧ R ≤ 4 ∧ C ≤ 4 ∧ InMat w' v (mkM R C f) ∧ InMat w' u (mkM R C g) ∧ Below w.heap.size w w'
theorem ownSws_cur {w w' : World} {lo B : Nat} {v : Value} {l : List Sw} (h : OwnSws w lo v l) (hg : w.grownBy w' (some B)) (hB : B < lo) : OwnSws w' lo v l :=
  ownA_grown h hg fun k hk e => by cases hk; have := (h.lt _ e).1; omega
set_option maxHeartbeats 2000000 in
theorem makePair_any (n c : Nat) (a : Option Addr) (w : World) (hin : InBytes w w.heap.size a n) :
    Calls Tryz.prog 22 #[.slice a n c] w (PairRes w) := by
  have HI := hide hin
  clear hin
  go_enter Tryz.func22, Tryz.ntmps22
  go_wp2_with fail
  refine (l01New_big n c a _ _ HI.out).mono ?_
  rintro e w1 ⟨rfl, hc, hb, hlt⟩
  obtain ⟨B, hB⟩ : ∃ B, w.heap.size = B := ⟨_, rfl⟩
  rw [hB] at hc hb hlt HI ⊢
  have HC := hide hc; have HB := hide hb; have HI1 := hide (inBytes_below HI.out hb)
  have HW := hide hB
  clear hc hb hB HI
  go_wp2_with fail
  refine (l02Draw_most B n a 4 _ B (by omega) (by omega) HC.out HI1.out (Nat.le_refl _)).mono ?_
  rintro e w2 ⟨v, R, C, f, rfl, him, ⟨hR, hC⟩, ho, hc, hb⟩
  have hsz := hb.size
  have HC2 := hide hc; have HB2 := hide (HB.out.trans hb); have HI2 := hide (inBytes_below HI1.out hb); have HIM := hide him
  have HV := hide (ownMat_mono ho (show B + 1 ≤ w1.heap.size from hlt) (Nat.le_refl _))
  clear hc hb ho HC HB HI1
  go_wp2_with fail
  refine (l02Copy_any v R C f _ (inMat_own HV.out) HIM.out).mono ?_
  rintro e w3 ⟨u, rfl, hu, hb⟩
  have hsz3 := hb.size
  have HC3 := hide (curAt_below HC2.out hb); have HB3 := hide (HB2.out.trans (hb.mono (by omega))); have HI3 := hide (inBytes_below HI2.out (hb.mono HI2.out.2.1))
  have HV3 := hide (ownMat_mono (ownMat_below HV.out hb) (Nat.le_refl _) hsz3)
  have HU := hide (ownMat_mono hu (show B + 1 ≤ w2.heap.size by omega) (Nat.le_refl _))
  clear hu hb HC2 HB2 HI2 HV
  go_wp2_with fail
  refine (l01Below_any B n a 6 _ B (by omega) (by omega) HC3.out HI3.out (Nat.le_refl _)).mono ?_
  rintro e w4 ⟨x, hx0, hx1, rfl, hc, hg⟩
  obtain ⟨k0, rfl⟩ : ∃ k : Nat, x = k := ⟨x.toNat, by omega⟩
  have hk0 : k0 ≤ 5 := by omega
  have hz4 := hg.size
  have HC4 := hide hc; have HI4 := hide (inBytes_grown HI3.out hg (Nat.le_refl _))
  have HV4 := hide (ownMat_mono (ownMat_cur HV3.out hg (Nat.lt_succ_self _)) (Nat.le_refl _) hz4); have HU4 := hide (ownMat_mono (ownMat_cur HU.out hg (Nat.lt_succ_self _)) (Nat.le_refl _) hz4)
  have HB4 := hide (HB3.out.trans (grown_below hg (fun k hk => by cases hk; exact Nat.le_refl _) (by omega)))
  have HSF : Hid (SameF R C f f) := hide ⟨fun _ _ => rfl, fun _ _ => rfl⟩
  have hB4 : B < w4.heap.size := by omega
  clear hc hg hx0 hx1 HC3 HI3 HV3 HU HB3
  go_wp2
  go_loopw [6, 7] (fun y t w' => ∃ (k : Nat) (g : Nat → Nat → Int) (u : Value), k ≤ 5 ∧ t = .int .i64 k ∧ u = y ∧ Img R C g ∧ SameF R C f g ∧ B < w'.heap.size ∧ OwnMat w' (B + 1) w'.heap.size u (mkM R C g) ∧ OwnMat w' (B + 1) w'.heap.size v (mkM R C f) ∧ CurAt w' B a n ∧ InBytes w' B a n ∧ Below B w w') (fun _ t _ => (intOf t).toNat)
  case atStart => exact ⟨k0, f, _, hk0, rfl, rfl, HIM.out, HSF.out, hB4, HU4.out, HV4.out, HC4.out, HI4.out, HB4.out⟩
  case round =>
    clear HC4 HI4 HV4 HU4 HB4 HSF hB4 hk0 hz4 hsz hsz3 hlt
    obtain ⟨k, g, u, hk, rfl, rfl, hig, hsf, hlt, ho, hv, hc, hi, hb⟩ := hrel
    have HIG := hide hig; have HSF := hide hsf; have HU := hide ho; have HV := hide hv; have HC := hide hc; have HI := hide hi; have HB := hide hb
    clear hig hsf ho hv hc hi hb
    cases k with
    | zero =>
      go_wp2
      go_ret2
      exact ⟨_, _, R, C, f, g, rfl, HIM.out, HIG.out, HSF.out, hR, hC, inMat_own HV.out, inMat_own HU.out, by rw [HW.out]; exact HB.out⟩
    | succ k =>
      have hkI : (0 : Int) < (k : Int) + 1 := by omega
      go_wp2_with fail
      refine (specSwitches_node _ _ (inMat_own HU.out) ⟨g, rfl, HIG.out⟩).mono ?_
      rintro e w6 ⟨sv, rfl, hsv, hb⟩
      have hz6 := hb.size
      obtain ⟨asl, cs, rfl⟩ := ownA_slice hsv
      have HU6 := hide (ownMat_mono (ownMat_below HU.out hb) (Nat.le_refl _) hz6); have HV6 := hide (ownMat_mono (ownMat_below HV.out hb) (Nat.le_refl _) hz6); have HC6 := hide (curAt_below HC.out hb); have HI6 := hide (inBytes_below HI.out (hb.mono HI.out.2.1)); have HB6 := hide (HB.out.trans (hb.mono (by omega)))
      have HSV := hide (ownSws_base hsv (show B + 1 ≤ wr.heap.size from hlt))
      have HSM := hide (sws_small HIG.out hR hC)
      have HAT := hide fun j (h : j < (swsM (mkM R C g)).length) => sws_at ⟨g, rfl, HIG.out⟩ h
      obtain ⟨S, hS⟩ : ∃ S, S = swsM (mkM R C g) := ⟨_, rfl⟩
      rw [← hS] at HSV HSM HAT ⊢
      obtain ⟨N, hN⟩ : ∃ N, N = S.length := ⟨_, rfl⟩
      have HN := hide hN
      rw [← hN] at HSM HAT HSV ⊢
      have hN256 := HSM.out
      clear hsv hb HC HI HU HV HB HSM hS hN
      cases N with
      | zero =>
        go_wp2
        go_roundw
        case rel => exact ⟨k, g, u, by omega, by go_num, rfl, HIG.out, HSF.out, by omega, HU6.out, HV6.out, HC6.out, HI6.out, HB6.out⟩
        case measure => simp [intOf]
      | succ N =>
        have hNI : (0 : Int) < (N : Int) + 1 := by omega
        obtain ⟨gs, cs2, e, -, hgs, -⟩ := ownA_some HSV.out (by rw [← HN.out]; omega)
        injection e with e1 e2 e3
        subst e1
        clear e2 e3
        go_wp2_with fail
        refine (l01Below_any B n a ((N + 1 : Nat) : Int) _ B (by omega) (by omega) HC6.out HI6.out (Nat.le_refl _)).mono ?_
        rintro e w7 ⟨x, hx0, hx1, rfl, hc, hg⟩
        obtain ⟨j, rfl⟩ : ∃ j : Nat, x = j := ⟨x.toNat, by omega⟩
        have hj : j < N + 1 := by omega
        have hjI : (j : Int) < (N : Int) + 1 := by omega
        have hz7 := hg.size
        have HSB := hide (HAT.out j hj)
        have hsc := sws_cell (ownSws_cur HSV.out hg (Nat.lt_succ_self _)) j (by rw [← HN.out]; exact hj)
        obtain ⟨s, hs⟩ : ∃ s, s = S.getD j zeroSw := ⟨_, rfl⟩
        rw [← hs] at HSB hsc
        have HU7 := hide (ownMat_mono (ownMat_cur HU6.out hg (Nat.lt_succ_self _)) (Nat.le_refl _) hz7); have HV7 := hide (ownMat_mono (ownMat_cur HV6.out hg (Nat.lt_succ_self _)) (Nat.le_refl _) hz7)
        have HC7 := hide hc; have HI7 := hide (inBytes_grown HI6.out hg (Nat.le_refl _)); have HB7 := hide (HB6.out.trans (grown_below hg (fun k hk => by cases hk; exact Nat.le_refl _) (by omega)))
        clear hc hg hx0 hx1 hs HU6 HV6 HC6 HI6 HB6 HAT HSV
        go_wp2_with (with_reducible refine wpList_loadSwC hsc 33 rfl rfl _ rfl rfl ?_)
        refine (specApply_node _ _ (inMat_own HU7.out) ⟨g, rfl, HIG.out⟩ HSB.out).mono ?_
        rintro e w8 ⟨y, rfl, hy, hb⟩
        have hz8 := hb.size
        have hsb := HSB.out
        rw [swB_mk HIG.out] at hsb
        rw [flipM_mk HIG.out] at hy
        have HY := hide (ownMat_mono hy (show B + 1 ≤ w7.heap.size by omega) (Nat.le_refl _)); have HFS := hide hsb
        have HV8 := hide (ownMat_mono (ownMat_below HV7.out hb) (Nat.le_refl _) hz8); have HC8 := hide (curAt_below HC7.out hb); have HI8 := hide (inBytes_below HI7.out (hb.mono HI7.out.2.1)); have HB8 := hide (HB7.out.trans (hb.mono (by omega)))
        clear hy hb hsb hsc
        go_wp2
        go_roundw
        case rel => exact ⟨k, flipF g s, y, by omega, by go_num, rfl, flipF_img HIG.out s, sameF_flipF HIG.out HSF.out HFS.out, by omega, HY.out, HV8.out, HC8.out, HI8.out, HB8.out⟩
        case measure => simp [intOf]
end Go.Proofs.YtcliiefedmiokaaGreat
/-
  The law FnNearest, walked.
-/
namespace Go.Proofs.YtcliiefedmiokaaGreat
open Go.RowKit
set_option linter.unusedVariables false

/-- In how many cells two images differ. -/
def dN (R C : Nat) (f g : Nat → Nat → Int) : Nat := cnt (fun i => imgF R C f i != imgF R C g i) 25
theorem imgF_cellM (R C : Nat) (f : Nat → Nat → Int) : imgF R C (cellM (mkM R C f)) = imgF R C f := by
  funext i
  unfold imgF
  split
  · rename_i h; exact cell_mk R C f h.1 h.2
  · rfl
theorem cntz1 {p : Nat → Bool} : ∀ n, cnt p n = 0 → ∀ i, i < n → p i = false
  | 0, _, i, hi => by omega
  | n + 1, h, i, hi => by
    cases hp : p n with
    | true => rw [cnt_yes hp] at h; omega
    | false =>
      rw [cnt_no hp] at h
      by_cases e : i = n
      · subst e; exact hp
      · exact cntz1 n h i (by omega)
theorem cntz2 {p : Nat → Bool} : ∀ n, (∀ i, i < n → p i = false) → cnt p n = 0
  | 0, _ => rfl
  | n + 1, h => by rw [cnt_no (h n (by omega))]; exact cntz2 n fun i hi => h i (by omega)
theorem dN_self (R C : Nat) (f : Nat → Nat → Int) : dN R C f f = 0 := cntz2 25 fun i _ => by simp
theorem dN_zero {R C : Nat} {f g : Nat → Nat → Int} (hR : R ≤ 5) (hC : C ≤ 5) (h : dN R C f g = 0) : mkM R C f = mkM R C g :=
  mkM_congr fun y x hy hx => by
    have := cntz1 25 h (5 * y + x) (by omega)
    rw [imgF_at _ _ _ _ _ (by omega), imgF_at _ _ _ _ _ (by omega), if_pos ⟨hy, hx⟩, if_pos ⟨hy, hx⟩] at this
    simpa using this
theorem near_facts {R C : Nat} {f g p : Nat → Nat → Int} (hI : Img R C f) (hJ : Img R C g) (hs : SameF R C f g) (hP : Img R C p) :
    nearB (rowsL R C f) (rowsL C R (trM f)) (mkM R C p) = true ∧ ∃ q, nearP (rowsL R C f) (rowsL C R (trM f)) (mkM R C p) = (mkM R C q, (dN R C q p : Int)) ∧ Img R C q ∧ sameB (mkM R C q) (mkM R C f) = true ∧ dN R C q p ≤ dN R C f p ∧ dN R C q p ≤ dN R C g p := by
  have hB : nearB (rowsL R C f) (rowsL C R (trM f)) (mkM R C p) = true := by
    unfold nearB
    rw [exists_I hI, img_ok hP, mkM_len, width_mkM hP.r1, rows_len, rows_len, beq_self_eq_true, beq_self_eq_true]; rfl
  have hval : ∀ m, nearF (rowsL R C f) (rowsL C R (trM f)) (mkM R C p) m = -(dN R C (cellM m) p : Int) := fun m => by
    unfold nearF nearN dN
    rw [rows_len, rows_len, imgF_cellM]
  refine ⟨hB, ?_⟩
  obtain ⟨z, hz, hz1, hz2, hz3⟩ := bestF_some (vf := nearF (rowsL R C f) (rowsL C R (trM f)) (mkM R C p)) (allL_ne (exists_I hI))
  obtain ⟨h1, h2, h3⟩ := allL_I hI hz1
  rw [hval] at hz2
  have hcm : ∀ k, dN R C (cellM (mkM R C k)) p = dN R C k p := fun k => by unfold dN; rw [imgF_cellM]
  have hf := hz3 _ (mem_I hI hI (sameF_refl R C f))
  have hg := hz3 _ (mem_I hI hJ hs)
  rw [hval, hcm] at hf hg
  refine ⟨cellM z.1, ?_, h2, sameB_okI h2 hI h3, by omega, by omega⟩
  unfold nearP pickP
  rw [hB, if_pos rfl, hz, Option.getD_some, ← h1, hz2, Int.neg_neg]
theorem near_self {R C : Nat} {f : Nat → Nat → Int} (hI : Img R C f) : nearB (rowsL R C f) (rowsL C R (trM f)) (mkM R C f) = true ∧ nearP (rowsL R C f) (rowsL C R (trM f)) (mkM R C f) = (mkM R C f, 0) := by
  obtain ⟨h1, q, h2, h3, -, h5, -⟩ := near_facts hI hI (sameF_refl R C f) hI
  rw [dN_self] at h5
  refine ⟨h1, ?_⟩
  rw [h2, dN_zero hI.r2 hI.c2 (show dN R C q f = 0 by omega), show dN R C q f = 0 by omega]; rfl
theorem near_yes (va vb vp : Value) (r c : List Int) (p q : List (List Int)) (n : Int) (w : World) (ha : RowC w va r) (hb : RowC w vb c) (hp : InMat w vp p) (h1 : nearB r c p = true) (h2 : nearP r c p = (q, n)) :
    Calls Tryz.prog 24 #[va, vb, vp] w (PickRes q n true w) := by
  have := implNearest_any va vb vp r c p w ha hb hp
  rw [h1, h2] at this; exact this
theorem dist_yes (v u : Value) (R C n : Nat) (f g : Nat → Nat → Int) (w : World) (hin : InMat w v (mkM R C f)) (hin2 : InMat w u (mkM R C g)) (h : Img R C f) (h' : Img R C g) (hn : dN R C f g = n) :
    Calls Tryz.prog 25 #[v, u] w fun e w' => e = .returned (.int .i64 n) ∧ Below w.heap.size w w' := by
  have := implDistanceOf_yes v u R C R C f g w hin hin2 h h'
  rw [if_pos ⟨rfl, rfl⟩] at this
  subst hn
  exact this
set_option maxRecDepth 100000 in
set_option maxHeartbeats 8000000 in
theorem lawNearest_walk (a : Option Addr) (n c : Nat) (w : World) (hin : InBytes w w.heap.size a n) :
    Calls Tryz.prog 5 #[.slice a n c] w fun e w' => e = .returned (.bool true) ∧ Below w.heap.size w w' := by
  have hmax := hin.1
  unfold maxLen at hmax
  by_cases hbig : 1048576 < n
  · go_enter Tryz.func5, Tryz.ntmps5
    clear hin
    go_wp2
    go_ret
    exact ⟨rfl, Below.refl _ _⟩
  · have HIN := hide hin
    clear hin
    go_enter Tryz.func5, Tryz.ntmps5
    have HB := hide (Below.refl w.heap.size w)
    go_wp2_with fail
    refine (makePair_any n c a _ HIN.out).mono ?_
    rintro e w1 ⟨v, u, R, C, f, g, rfl, hI, hJ, hsf, hR4, hC4, hv, hu, hb⟩
    have hs1 := hb.size
    replace HB := hide (HB.out.trans (hb.mono HB.out.size))
    have HM := hide (hv)
    have HG := hide (hu)
    clear hb
    have HI := hide hI; have HJ := hide hJ; have HSF := hide hsf
    have hR := hI.r2; have hR1 := hI.r1; have hC := hI.c2; have hC1 := hI.c1
    have HEI := hide (show InBytes w1 w.heap.size a n from inBytes_below HIN.out HB.out)
    obtain ⟨ua, uc, rfl⟩ := inMat_sliceI HG.out
    obtain ⟨mg, mo, mc, rfl, hmg, hmcell⟩ := inMat_img HM.out (by omega) (by omega)
    obtain ⟨g0, o0, c0, hx0, -⟩ := hmcell 0 (by omega)
    rw [Nat.add_zero] at hx0
    clear hI hJ hsf hv hu hmg hmcell hR4 hC4
    go_wp2_with fail
    refine (makeSized_any n c a 30 R C _ _ HEI.out (by omega) (by omega) ⟨hR1, hR⟩ ⟨hC1, hC⟩).mono ?_
    rintro e w2 ⟨pv, p, rfl, hP, ho, hb⟩
    have hs2 := hb.size
    replace HM := hide (inMat_below HM.out hb)
    replace HG := hide (inMat_below HG.out hb)
    replace HB := hide (HB.out.trans (hb.mono HB.out.size))
    have HPM := hide (inMat_own ho)
    clear hb
    have HP := hide hP
    clear ho hx0 HEI
    obtain ⟨pa, pc, rfl⟩ := inMat_sliceI HPM.out
    obtain ⟨hnb, q, hnp, hQ, hsb, hd1, hd2⟩ := near_facts HI.out HJ.out HSF.out hP
    obtain ⟨hnb2, hnp2⟩ := near_self HI.out
    have HNB := hide hnb; have HNP := hide hnp; have HQ := hide hQ; have HSB := hide hsb; have HNB2 := hide hnb2; have HNP2 := hide hnp2
    obtain ⟨d0, hd0⟩ : ∃ d0, d0 = dN R C q p := ⟨_, rfl⟩
    obtain ⟨d1, hdd1⟩ : ∃ d1, d1 = dN R C f p := ⟨_, rfl⟩
    obtain ⟨d2, hdd2⟩ : ∃ d2, d2 = dN R C g p := ⟨_, rfl⟩
    rw [← hd0] at hd1 hd2 HNP
    rw [← hdd1] at hd1
    rw [← hdd2] at hd2
    have HD0 := hide hd0.symm; have HD1 := hide hdd1.symm; have HD2 := hide hdd2.symm
    have hd1I : (d0 : Int) ≤ d1 := by omega
    have hd2I : (d0 : Int) ≤ d2 := by omega
    clear hP hnb hnp hQ hsb hnb2 hnp2 hd0 hdd1 hdd2 hd1 hd2
    go_wp2_with fail
    refine (implRowSums_yes (.slice (some ⟨mg, mo, none⟩) R mc) R C f _ HM.out HI.out).mono ?_
    rintro e w3 ⟨rv1, rfl, ho, hb⟩
    have hs3 := hb.size
    replace HM := hide (inMat_below HM.out hb)
    replace HG := hide (inMat_below HG.out hb)
    replace HPM := hide (inMat_below HPM.out hb)
    replace HB := hide (HB.out.trans (hb.mono HB.out.size))
    have HR1 := hide (rowC_own ho)
    clear hb
    clear ho
    go_wp2_with fail
    refine (implColSums_yes (.slice (some ⟨mg, mo, none⟩) R mc) R C f _ HM.out HI.out).mono ?_
    rintro e w4 ⟨cv1, rfl, ho, hb⟩
    have hs4 := hb.size
    replace HM := hide (inMat_below HM.out hb)
    replace HG := hide (inMat_below HG.out hb)
    replace HPM := hide (inMat_below HPM.out hb)
    replace HR1 := hide (rowC_below HR1.out hb)
    replace HB := hide (HB.out.trans (hb.mono HB.out.size))
    have HC1 := hide (rowC_own ho)
    clear hb
    clear ho
    go_wp2_with fail
    refine (near_yes rv1 cv1 (.slice pa R pc) _ _ _ _ _ _ HR1.out HC1.out HPM.out HNB.out HNP.out).mono ?_
    rintro e w5 ⟨xv, rfl, ho, hb⟩
    have hs5 := hb.size
    replace HM := hide (inMat_below HM.out hb)
    replace HG := hide (inMat_below HG.out hb)
    replace HPM := hide (inMat_below HPM.out hb)
    replace HR1 := hide (rowC_below HR1.out hb)
    replace HC1 := hide (rowC_below HC1.out hb)
    replace HB := hide (HB.out.trans (hb.mono HB.out.size))
    have HXM := hide (inMat_own ho)
    clear hb
    clear ho
    obtain ⟨xa, xc, rfl⟩ := inMat_sliceI HXM.out
    clear HR1
    clear HC1
    go_wp2_with fail
    refine (implRowSums_yes (.slice (some ⟨mg, mo, none⟩) R mc) R C f _ HM.out HI.out).mono ?_
    rintro e w6 ⟨rv2, rfl, ho, hb⟩
    have hs6 := hb.size
    replace HM := hide (inMat_below HM.out hb)
    replace HG := hide (inMat_below HG.out hb)
    replace HPM := hide (inMat_below HPM.out hb)
    replace HXM := hide (inMat_below HXM.out hb)
    replace HB := hide (HB.out.trans (hb.mono HB.out.size))
    have HR2 := hide (rowC_own ho)
    clear hb
    clear ho
    go_wp2_with fail
    refine (implColSums_yes (.slice (some ⟨mg, mo, none⟩) R mc) R C f _ HM.out HI.out).mono ?_
    rintro e w7 ⟨cv2, rfl, ho, hb⟩
    have hs7 := hb.size
    replace HM := hide (inMat_below HM.out hb)
    replace HG := hide (inMat_below HG.out hb)
    replace HPM := hide (inMat_below HPM.out hb)
    replace HXM := hide (inMat_below HXM.out hb)
    replace HR2 := hide (rowC_below HR2.out hb)
    replace HB := hide (HB.out.trans (hb.mono HB.out.size))
    have HC2 := hide (rowC_own ho)
    clear hb
    clear ho
    go_wp2_with fail
    refine (near_yes rv2 cv2 (.slice (some ⟨mg, mo, none⟩) R mc) _ _ _ _ _ _ HR2.out HC2.out HM.out HNB2.out HNP2.out).mono ?_
    rintro e w8 ⟨yv, rfl, ho, hb⟩
    have hs8 := hb.size
    replace HM := hide (inMat_below HM.out hb)
    replace HG := hide (inMat_below HG.out hb)
    replace HPM := hide (inMat_below HPM.out hb)
    replace HXM := hide (inMat_below HXM.out hb)
    replace HR2 := hide (rowC_below HR2.out hb)
    replace HC2 := hide (rowC_below HC2.out hb)
    replace HB := hide (HB.out.trans (hb.mono HB.out.size))
    have HYM := hide (inMat_own ho)
    clear hb
    clear ho
    obtain ⟨ya, yc, rfl⟩ := inMat_sliceI HYM.out
    clear HR2
    clear HC2
    go_wp2_with fail
    refine (same_okI (.slice xa R xc) (.slice (some ⟨mg, mo, none⟩) R mc) _ _ _ HXM.out HM.out HSB.out).mono ?_
    rintro e w9 ⟨rfl, hb⟩
    have hs9 := hb.size
    replace HM := hide (inMat_below HM.out hb)
    replace HG := hide (inMat_below HG.out hb)
    replace HPM := hide (inMat_below HPM.out hb)
    replace HXM := hide (inMat_below HXM.out hb)
    replace HYM := hide (inMat_below HYM.out hb)
    replace HB := hide (HB.out.trans (hb.mono HB.out.size))
    clear hb
    go_wp2_with fail
    refine (dist_yes (.slice xa R xc) (.slice pa R pc) R C d0 q p _ HXM.out HPM.out HQ.out HP.out HD0.out).mono ?_
    rintro e w10 ⟨rfl, hb⟩
    have hs10 := hb.size
    replace HM := hide (inMat_below HM.out hb)
    replace HG := hide (inMat_below HG.out hb)
    replace HPM := hide (inMat_below HPM.out hb)
    replace HXM := hide (inMat_below HXM.out hb)
    replace HYM := hide (inMat_below HYM.out hb)
    replace HB := hide (HB.out.trans (hb.mono HB.out.size))
    clear hb
    go_wp2_with fail
    refine (dist_yes (.slice (some ⟨mg, mo, none⟩) R mc) (.slice pa R pc) R C d1 f p _ HM.out HPM.out HI.out HP.out HD1.out).mono ?_
    rintro e w11 ⟨rfl, hb⟩
    have hs11 := hb.size
    replace HM := hide (inMat_below HM.out hb)
    replace HG := hide (inMat_below HG.out hb)
    replace HPM := hide (inMat_below HPM.out hb)
    replace HXM := hide (inMat_below HXM.out hb)
    replace HYM := hide (inMat_below HYM.out hb)
    replace HB := hide (HB.out.trans (hb.mono HB.out.size))
    clear hb
    go_wp2_with fail
    refine (dist_yes (.slice ua R uc) (.slice pa R pc) R C d2 g p _ HG.out HPM.out HJ.out HP.out HD2.out).mono ?_
    rintro e w12 ⟨rfl, hb⟩
    have hs12 := hb.size
    replace HM := hide (inMat_below HM.out hb)
    replace HG := hide (inMat_below HG.out hb)
    replace HPM := hide (inMat_below HPM.out hb)
    replace HXM := hide (inMat_below HXM.out hb)
    replace HYM := hide (inMat_below HYM.out hb)
    replace HB := hide (HB.out.trans (hb.mono HB.out.size))
    clear hb
    go_wp2_with fail
    refine (alike_yes (.slice ya R yc) (.slice (some ⟨mg, mo, none⟩) R mc) _ _ HYM.out HM.out).mono ?_
    rintro e w13 ⟨rfl, hb⟩
    have hs13 := hb.size
    replace HM := hide (inMat_below HM.out hb)
    replace HG := hide (inMat_below HG.out hb)
    replace HPM := hide (inMat_below HPM.out hb)
    replace HXM := hide (inMat_below HXM.out hb)
    replace HYM := hide (inMat_below HYM.out hb)
    replace HB := hide (HB.out.trans (hb.mono HB.out.size))
    clear hb
    go_wp2
    go_ret
    exact ⟨rfl, HB.out⟩
end Go.Proofs.YtcliiefedmiokaaGreat
/-
  Stops and steps: what they are in memory; stopsFor, collect, pricesAt.
-/
namespace Go.Proofs.YtcliiefedmiokaaGreat
open Go.RowKit

def ptrS (b : Nat) : Value := .pointer (some ⟨b, 0, none⟩)
def ptrsB (b : Nat → Nat) (n k : Nat) : List Value := (List.range n).map fun i => if i < k then ptrS (b i) else .pointer none
theorem ptrsB_len (b : Nat → Nat) (n k : Nat) : (ptrsB b n k).length = n := by simp [ptrsB]
theorem ptrsB_at {b : Nat → Nat} {n k i : Nat} (h : i < n) : (ptrsB b n k).getD i undef = if i < k then ptrS (b i) else .pointer none := by simp [ptrsB, h]
theorem ptrsB_zero (b : Nat → Nat) (n : Nat) : List.replicate n (Value.pointer none) = ptrsB b n 0 := by
  apply List.ext_getElem
  · simp [ptrsB]
  · intro i h1 h2; simp [ptrsB]
theorem ptrsB_set {b : Nat → Nat} {n k : Nat} {x : Nat} (hk : k < n) : (ptrsB b n k).set k (ptrS x) = ptrsB (fun i => if i = k then x else b i) n (k + 1) := by
  apply List.ext_getElem
  · simp [ptrsB]
  · intro i h1 h2
    have hi : i < n := by simpa [ptrsB] using h2
    by_cases e : i = k
    · subst e; simp [ptrsB]
    · rw [List.getElem_set_ne (Ne.symm e)]
      simp only [ptrsB, List.getElem_map, List.getElem_range, if_neg e]
      by_cases e2 : i < k
      · rw [if_pos e2, if_pos (by omega)]
      · rw [if_neg e2, if_neg (by omega)]
theorem ptrsB_congr {b b' : Nat → Nat} {n k : Nat} (h : ∀ i, i < k → b i = b' i) : ptrsB b n k = ptrsB b' n k := by
  unfold ptrsB
  refine List.map_congr_left fun i _ => ?_
  by_cases e : i < k
  · rw [if_pos e, if_pos e, h i e]
  · rw [if_neg e, if_neg e]
theorem Tryz.infoPtrStop : (Tryz.prog.info? 127).map (fun i => (i.zero, i.size, i.bytes)) = some (some (.pointer none), 1, 8) := by kernel_rfl
theorem newStop_any (k : Int) (w : World) :
    Calls Tryz.prog 114 #[.int .i64 k] w fun e w' => e = .returned (.pointer (some ⟨w.heap.size, 0, none⟩)) ∧ w' = w.alloc (.cells #[.int .i64 0] 129) := by
  go_enter Tryz.func114, Tryz.ntmps114
  go_wp2
  go_ret
  exact ⟨rfl, rfl⟩
/-- Stops of the call's own, from lo on, and the list of pointers to them. -/
structure StopsB (w : World) (lo : Nat) (v : Value) (n : Nat) (b : Nat → Nat) : Prop where
  own : w.ownsRow lo 127 1 v n (ptrsB b n n)
  box : ∀ i, i < n → lo ≤ b i ∧ Boxed w (b i) 129 (.int .i64 0)
  inj : ∀ i j, i < j → j < n → b i < b j
set_option maxHeartbeats 1000000 in
theorem collectStops_any (n : Nat) (w : World) (hn : n ≤ 5) :
    Calls Tryz.prog 113 #[.int .i64 n, .func (.func 114) #[] #[]] w fun e w' => ∃ v b, e = .returned v ∧ StopsB w' w.heap.size v n b ∧ Below w.heap.size w w' := by
  go_enter Tryz.func113, Tryz.ntmps113
  go_wp2_with (at_make; refine wpList_new w.heap.size n (.pointer none) rfl _ _ rfl Tryz.underlying90 Tryz.infoPtrStop rfl (by decide) rfl rfl (by omega) (Nat.le_refl _) ?_; intro w1 hown1 hb1 hg1)
  have HO : Hid (∃ b, w1.ownsRow w.heap.size 127 1 (.slice (some ⟨w.heap.size, 0, none⟩) n n) n (ptrsB b n 0) ∧ (∀ i, i < 0 → w.heap.size < b i ∧ Boxed w1 (b i) 129 (.int .i64 0)) ∧ ∀ i j, i < j → j < 0 → b i < b j) := hide ⟨fun _ => 0, by rw [ptrsB_zero fun _ => 0] at hown1; exact hown1, fun i h => absurd h (Nat.not_lt_zero _), fun i j _ h => absurd h (Nat.not_lt_zero _)⟩
  have HB := hide hb1
  clear hown1 hb1 hg1
  go_wp2
  go_loopw [10] (fun i w' => ∃ k : Nat, k ≤ n ∧ i = .int .i64 k ∧ (∃ b, w'.ownsRow w.heap.size 127 1 (.slice (some ⟨w.heap.size, 0, none⟩) n n) n (ptrsB b n k) ∧ (∀ i, i < k → w.heap.size < b i ∧ Boxed w' (b i) 129 (.int .i64 0)) ∧ ∀ i j, i < j → j < k → b i < b j) ∧ Below w.heap.size w w') (fun i _ => n - (intOf i).toNat)
  case atStart => exact ⟨0, Nat.zero_le _, rfl, HO.out, HB.out⟩
  case round =>
    clear HO HB
    obtain ⟨k, hk, rfl, ⟨b, hown, hbox, hinj⟩, hb⟩ := hrel
    have HO := hide hown; have HB := hide hb; have HX := hide hbox; have HJ := hide hinj
    clear hown hb hbox hinj
    by_cases hlt : k < n
    · have HCA := hide (newStop_any ((k : Int) + 1) wr)
      have HO2 := hide (HO.out.alloc (.cells #[.int .i64 0] 129))
      have hc1 := cell_held HO2.out hlt
      have hf := HO2.out.frozenAt k
      have HS := hide (HO.out.stored k (ptrS wr.heap.size)).1
      rw [ptrsB_set hlt] at HS
      have hown := (HO.out.lt _ rfl).2
      go_wp2_with (go_at_call 114; refine HCA.out.mono ?_; rintro e w9 ⟨rfl, rfl⟩)
      go_roundw
      case rel =>
        have hsz : (wr.setCell ⟨w.heap.size, k, none⟩ (ptrS wr.heap.size)).heap.size = wr.heap.size := by simp [World.setCell]
        refine ⟨k + 1, by omega, by go_num, ⟨_, HS.out.alloc _, fun i hi => ?_, fun i j hij hj => ?_⟩, (HB.out.setCell (p := ⟨w.heap.size, k, none⟩) (Nat.le_refl _) _).alloc (Nat.le_trans HB.out.size (Nat.le_of_eq hsz.symm)) _⟩
        · have hnb : ∀ q, w.heap.size < q → q ≠ w.heap.size := fun q h => by omega
          by_cases e : i = k
          · subst e
            simp only [if_true]
            refine ⟨hown, ?_⟩
            have := Boxed.new (wr.setCell ⟨w.heap.size, i, none⟩ (ptrS wr.heap.size)) 129 (.int .i64 0)
            rw [hsz] at this
            exact this
          · simp only [if_neg e]
            obtain ⟨h1, h2⟩ := HX.out i (by omega)
            exact ⟨h1, (show Boxed (wr.setCell ⟨w.heap.size, k, none⟩ (ptrS wr.heap.size)) (b i) 129 (.int .i64 0) from (Below.heap_setCell _ _ _ _ (Nat.ne_of_gt h1)).trans h2).alloc _⟩
        · by_cases e : j = k
          · subst e
            have e2 : i ≠ j := by omega
            simp only [if_true, if_neg e2]
            exact (HX.out i (by omega)).2.lt
          · have e2 : i ≠ k := by omega
            simp only [if_neg e, if_neg e2]
            exact HJ.out i j hij (by omega)
      case measure => simp [intOf]; omega
    · obtain rfl : k = n := by omega
      go_wp2
      go_ret
      exact ⟨_, b, rfl, ⟨HO.out, fun i hi => ⟨Nat.le_of_lt (HX.out i hi).1, (HX.out i hi).2⟩, HJ.out⟩, HB.out⟩
theorem stopsFor_any (n : Nat) (w : World) (hn : n ≤ 5) :
    Calls Tryz.prog 75 #[.int .i64 n] w fun e w' => ∃ v b, e = .returned v ∧ StopsB w' w.heap.size v n b ∧ Below w.heap.size w w' := by
  have HC := hide (collectStops_any n w hn)
  go_enter Tryz.func75, Tryz.ntmps75
  go_wp2_with fail
  refine HC.out.mono ?_
  rintro e w1 ⟨v, b, rfl, hs, hb⟩
  obtain ⟨av, cv, rfl⟩ := own_slice hs.own
  have H := hide (And.intro hs hb)
  clear hs hb
  go_wp2
  go_ret
  exact ⟨_, b, rfl, H.out.1, H.out.2⟩
end Go.Proofs.YtcliiefedmiokaaGreat
/-
  collect over any function of integers; pricesAt.
-/
namespace Go.Proofs.YtcliiefedmiokaaGreat
open Go.RowKit

theorem rowF_zeros (n : Nat) : List.replicate n (Value.int .i64 0) = ints (rowF n fun _ => 0) := by
  apply List.ext_getElem
  · simp [ints, rowF]
  · intro i h1 h2; simp [ints, rowF]
set_option maxHeartbeats 1000000 in
theorem collectG_any (gf : Nat) (cb : Array Value) (F : Nat → Int) (n : Nat) (w : World) (eg : ∀ args w, (callFunc gf args).run Tryz.prog w = .ok (.enter gf args) w) (hn : n ≤ 5)
    (hF : ∀ (k : Nat) (W : World), k < n → Below w.heap.size w W → Calls Tryz.prog gf (#[.int .i64 ((k : Int) + 1)] ++ cb) W fun e W' => e = .returned (.int .i64 (F k)) ∧ Below W.heap.size W W') :
    Calls Tryz.prog 95 #[.int .i64 n, .func (.func gf) #[] cb] w (IntsRes (rowF n F) w) := by
  have HF := hide hF
  clear hF
  go_enter Tryz.func95, Tryz.ntmps95
  go_wp2_with (at_make; refine wpList_new w.heap.size n (.int .i64 0) rfl _ _ rfl Tryz.underlying30 Tryz.infoInt rfl (by decide) rfl rfl (by omega) (Nat.le_refl _) ?_; intro w1 hown1 hb1 hg1)
  have HO := hide hown1; have HB := hide hb1
  clear hown1 hb1 hg1
  go_wp2
  go_loopw [10] (fun i w' => ∃ k : Nat, k ≤ n ∧ i = .int .i64 k ∧ w'.ownsRow w.heap.size 3 1 (.slice (some ⟨w.heap.size, 0, none⟩) n n) n (ints (rowF n fun t => if t < k then F t else 0)) ∧ Below w.heap.size w w') (fun i _ => n - (intOf i).toNat)
  case atStart => exact ⟨0, Nat.zero_le _, rfl, by rw [rowF_zeros] at HO; exact HO.out, HB.out⟩
  case round =>
    clear HO HB
    obtain ⟨k, hk, rfl, hown, hb⟩ := hrel
    have HO := hide hown; have HB := hide hb
    clear hown hb
    by_cases hlt : k < n
    · have HCA := hide (HF.out k wr hlt HB.out)
      have HKS := hide fun (w9 : World) (h9 : Below wr.heap.size wr w9) => (own_below HO.out h9)
      have e2 : rowF n (fun t => if t = k then F k else if t < k then F t else 0) = rowF n fun t => if t < k + 1 then F t else 0 := rowF_congr fun i _ => by
        by_cases e : i = k
        · subst e; rw [if_pos rfl, if_pos (Nat.lt_succ_self _)]
        · rw [if_neg e]
          by_cases e' : i < k
          · rw [if_pos e', if_pos (by omega)]
          · rw [if_neg e', if_neg (by omega)]
      have HS := hide fun (w9 : World) (h9 : Below wr.heap.size wr w9) => (show (w9.setCell ⟨w.heap.size, k, none⟩ (.int .i64 (F k))).ownsRow w.heap.size 3 1 (.slice (some ⟨w.heap.size, 0, none⟩) n n) n (ints (rowF n fun t => if t < k + 1 then F t else 0)) by
        have := ((HKS.out w9 h9).stored k (.int .i64 (F k))).1
        rw [ints_set, rowF_set, e2] at this
        exact this)
      clear e2
      obtain ⟨z, hz⟩ : ∃ z, z = F k := ⟨_, rfl⟩
      rw [← hz] at HCA HS
      clear hz
      go_wp2_with (go_at_fn gf; refine HCA.out.mono ?_; rintro e w9 ⟨rfl, b9⟩; have hc1 := cell_held (HKS.out w9 b9) hlt; have hf := (HKS.out w9 b9).frozenAt k; have HS9 := hide (HS.out w9 b9); have HB9 := hide (HB.out.trans (b9.mono HB.out.size)); clear b9)
      go_roundw
      case rel => exact ⟨k + 1, by omega, by go_num, HS9.out, HB9.out.setCell (Nat.le_refl _) _⟩
      case measure => simp [intOf]; omega
    · obtain rfl : k = n := by omega
      have e3 : rowF k (fun t => if t < k then F t else 0) = rowF k F := rowF_congr fun i hi => by rw [if_pos hi]
      have HO : Hid _ := hide (e3 ▸ HO.out)
      clear e3
      go_wp2
      go_ret
      exact ⟨_, rfl, by rw [rowF_len]; exact HO.out, HB.out⟩
theorem price1_any (k n c q1 q2 g b : Nat) (sign d : Int) (w : World) (hs : sign = 1 ∨ sign = -1) (hd : -100000 ≤ d ∧ d ≤ 0) (hk : k < n) (hn : n ≤ 5)
    (h1 : w.cell? ⟨q1, 0, none⟩ = some (.int .i64 sign)) (h2 : w.cell? ⟨q2, 0, none⟩ = some (.slice (some ⟨g, 0, none⟩) n c)) (h3 : w.cell? ⟨g, k, none⟩ = some (.pointer (some ⟨b, 0, none⟩))) (h4 : w.cell? ⟨b, 0, none⟩ = some (.int .i64 d)) :
    Calls Tryz.prog 117 #[.int .i64 ((k : Int) + 1), .pointer (some ⟨q1, 0, none⟩), .pointer (some ⟨q2, 0, none⟩)] w fun e w' => e = .returned (.int .i64 (sign * d)) ∧ Below w.heap.size w w' := by
  have hkI : (k : Int) < n := by omega
  obtain ⟨hd1, hd2⟩ := hd
  rcases hs with rfl | rfl
  · rw [Int.one_mul]
    go_enter Tryz.func117, Tryz.ntmps117
    go_wp2
    go_quiet (fail)
    go_wp2
    go_ret
    exact ⟨rfl, below_draws (Below.refl _ _) _⟩
  · rw [show (-1 : Int) * d = -d by omega]
    go_enter Tryz.func117, Tryz.ntmps117
    go_wp2
    go_quiet (fail)
    go_wp2
    go_ret
    exact ⟨rfl, below_draws (Below.refl _ _) _⟩
set_option maxHeartbeats 1000000 in
theorem pricesAt_any (v : Value) (n lo : Nat) (b : Nat → Nat) (d : Nat → Int) (sign : Int) (w : World) (hs : sign = 1 ∨ sign = -1) (hn : 1 ≤ n ∧ n ≤ 5) (hown : w.ownsRow lo 127 1 v n (ptrsB b n n)) (hbox : ∀ i, i < n → Boxed w (b i) 129 (.int .i64 (d i))) (hd : ∀ i, i < n → -100000 ≤ d i ∧ d i ≤ 0) :
    Calls Tryz.prog 78 #[v, .int .i64 sign] w (IntsRes (rowF n fun i => sign * d i) w) := by
  obtain ⟨w1, hw1⟩ : ∃ w1, w1 = (w.alloc (.cells #[v] 90)).alloc (.cells #[.int .i64 sign] 3) := ⟨_, rfl⟩
  have B1 := hide (show Below w.heap.size w w1 by rw [hw1]; exact ((Below.refl _ w).alloc (Nat.le_refl _) _).alloc (by simp) _)
  have hs1 : w1.heap.size = w.heap.size + 2 := by rw [hw1]; simp
  have hq2 : w1.cell? ⟨w.heap.size, 0, none⟩ = some v := by
    have h : Boxed w1 w.heap.size 90 v := by rw [hw1]; exact (Boxed.new w _ _).alloc _
    exact h.cell
  have hq1 : w1.cell? ⟨w.heap.size + 1, 0, none⟩ = some (.int .i64 sign) := by
    have h : Boxed w1 (w.heap.size + 1) 3 (.int .i64 sign) := by
      rw [hw1]
      have := Boxed.new (w.alloc (.cells #[v] 90)) 3 (.int .i64 sign)
      rw [World.size_alloc] at this
      exact this
    exact h.cell
  obtain ⟨g, c, rfl, -, hg, -, -, -, -⟩ := own_some hown hn.1
  have HC := hide (collectG_any 117 #[.pointer (some ⟨w.heap.size + 1, 0, none⟩), .pointer (some ⟨w.heap.size, 0, none⟩)] (fun i => sign * d i) n w1 (enters_of Tryz.func117 (by kernel_rfl) rfl) hn.2 (fun k W hk hW => by
    have hp := cell_held hown hk
    rw [ptrsB_at hk, if_pos hk] at hp
    have hBW := B1.out.trans (hW.mono B1.out.size)
    exact price1_any k n c (w.heap.size + 1) w.heap.size g (b k) sign (d k) W hs (hd k hk) hk hn.2 (below_cell hW (by omega) hq1) (below_cell hW (by omega) hq2) (below_cell hBW hg hp) (below_cell hBW (hbox k hk).lt (hbox k hk).cell)))
  clear hq1 hq2 hs1 hbox hd hown
  obtain ⟨hn1, hn2⟩ := hn
  go_enter Tryz.func78, Tryz.ntmps78
  go_wp2_with fail
  rw [← hw1]
  clear hw1
  refine HC.out.mono ?_
  rintro e w2 ⟨u, rfl, ho, hb⟩
  obtain ⟨au, cu, rfl⟩ := own_slice ho
  have H := hide (And.intro (own_base ho B1.out.size) (B1.out.trans (hb.mono B1.out.size)))
  clear ho hb
  go_wp2
  go_ret
  exact ⟨_, rfl, H.out.1, H.out.2⟩
end Go.Proofs.YtcliiefedmiokaaGreat
/-
  Steps: back, shortens.
-/
namespace Go.Proofs.YtcliiefedmiokaaGreat
open Go.RowKit

def stA (p q : Nat) (l : Int) : Array Value := #[.pointer (some ⟨p, 0, none⟩), .pointer (some ⟨q, 0, none⟩), .int .i64 l]
theorem Tryz.sizeStep : (Tryz.prog.info? 132).map (·.size) = some 3 := by kernel_rfl
theorem back_any (p q : Nat) (l : Int) (w : World) (hl : -100 ≤ l ∧ l ≤ 100) :
    Calls Tryz.prog 115 #[.agg #[.pointer (some ⟨p, 0, none⟩), .pointer (some ⟨q, 0, none⟩), .int .i64 l]] w fun e w' => e = .returned (.agg #[.pointer (some ⟨q, 0, none⟩), .pointer (some ⟨p, 0, none⟩), .int .i64 (-l)]) ∧ Below w.heap.size w w' := by
  obtain ⟨h1, h2⟩ := hl
  go_enter Tryz.func115, Tryz.ntmps115
  go_wp2
  refine bodyPost_ret (v := .agg #[.pointer (some ⟨q, 0, none⟩), .pointer (some ⟨p, 0, none⟩), .int .i64 (-l)]) (by simp [results, Tryz.results115, go_sem]) rfl ⟨rfl, ((Below.refl _ w).alloc (Nat.le_refl _) _).alloc (by simp) _⟩
/-- Nothing has turned but blocks of A. -/
structure Onl (A : Nat → Prop) (w w' : World) : Prop where
  os : w'.os = w.os
  tape : w'.tape = w.tape
  output : w'.output = w.output
  size : w.heap.size ≤ w'.heap.size
  block : ∀ k, k < w.heap.size → ¬ A k → w'.heap[k]? = w.heap[k]?
theorem onl_refl (A : Nat → Prop) (w : World) : Onl A w w := ⟨rfl, rfl, rfl, Nat.le_refl _, fun _ _ _ => rfl⟩
theorem onl_trans {A B C : Nat → Prop} {u v w : World} (h : Onl A u v) (k : Onl B v w) (hA : ∀ i, A i → C i) (hB : ∀ i, B i → C i) : Onl C u w :=
  ⟨k.os.trans h.os, k.tape.trans h.tape, k.output.trans h.output, Nat.le_trans h.size k.size, fun i hi hn => by
    rw [k.block i (Nat.lt_of_lt_of_le hi h.size) (fun e => hn (hB i e)), h.block i hi (fun e => hn (hA i e))]⟩
theorem onl_below {A : Nat → Prop} {w w' : World} (h : Below w.heap.size w w') : Onl A w w' := ⟨h.os, h.tape, h.output, h.size, fun k hk _ => h.block k hk⟩
theorem below_onl {A : Nat → Prop} {w0 w w' : World} (hb : Below w0.heap.size w0 w) (h : Onl A w w') (hA : ∀ k, A k → w0.heap.size ≤ k) : Below w0.heap.size w0 w' :=
  ⟨h.os.trans hb.os, h.tape.trans hb.tape, h.output.trans hb.output, Nat.le_trans hb.size h.size, fun k hk => by
    rw [h.block k (Nat.lt_of_lt_of_le hk hb.size) (fun e => by have := hA k e; omega)]; exact hb.block k hk⟩
set_option maxHeartbeats 1000000 in
theorem shortens_any (p q : Nat) (a b l : Int) (w : World) (hl : -100 ≤ l ∧ l ≤ 100) (ha : -100000 ≤ a ∧ a ≤ 0) (hb : -100000 ≤ b ∧ b ≤ 0) (hp : Boxed w p 129 (.int .i64 a)) (hq : Boxed w q 129 (.int .i64 b)) :
    Calls Tryz.prog 116 #[.agg #[.pointer (some ⟨p, 0, none⟩), .pointer (some ⟨q, 0, none⟩), .int .i64 l]] w fun e w' => e = .returned (.bool (decide (a + l < b))) ∧ Boxed w' q 129 (.int .i64 (if a + l < b then a + l else b)) ∧ Onl (fun k => a + l < b ∧ k = q) w w' := by
  obtain ⟨h1, h2⟩ := hl
  obtain ⟨h3, h4⟩ := ha
  obtain ⟨h5, h6⟩ := hb
  have hcp := hp.cell
  have hcq := hq.cell
  have hfq := hq.frozen
  have hlp := hp.lt
  have hlq := hq.lt
  have HQ := hide hq
  clear hp hq
  by_cases hlt : a + l < b
  · have HL := hide hlt
    have HIF : Hid ((if a + l < b then a + l else b) = a + l) := hide (if_pos hlt)
    have HDD : Hid (decide (a + l < b) = true) := hide (decide_eq_true hlt)
    rw [HIF.out, HDD.out]
    go_enter Tryz.func116, Tryz.ntmps116
    go_wp2
    go_quiet (fail)
    go_wp2
    go_ret
    have h0 : Boxed ((w.alloc (.cells #[.pointer (some ⟨p, 0, none⟩), .pointer (some ⟨q, 0, none⟩), .int .i64 l] 132)).drewN nq) q 129 (.int .i64 b) := HQ.out.alloc _
    have hb0 : Below w.heap.size w ((w.alloc (.cells #[.pointer (some ⟨p, 0, none⟩), .pointer (some ⟨q, 0, none⟩), .int .i64 l] 132)).drewN nq) := below_draws ((Below.refl _ w).alloc (Nat.le_refl _) _) nq
    refine ⟨rfl, h0.set _, hb0.os, hb0.tape, hb0.output, Nat.le_trans hb0.size (by simp [World.setCell]), fun k hk hn => ?_⟩
    rw [Below.heap_setCell _ _ _ _ (fun e => hn ⟨HL.out, e⟩)]
    exact hb0.block k hk
  · have HL := hide hlt
    have HIF : Hid ((if a + l < b then a + l else b) = b) := hide (if_neg hlt)
    have HDD : Hid (decide (a + l < b) = false) := hide (decide_eq_false hlt)
    rw [HIF.out, HDD.out]
    go_enter Tryz.func116, Tryz.ntmps116
    go_wp2
    go_quiet (fail)
    go_wp2
    go_ret
    have h0 : Boxed ((w.alloc (.cells #[.pointer (some ⟨p, 0, none⟩), .pointer (some ⟨q, 0, none⟩), .int .i64 l] 132)).drewN nq) q 129 (.int .i64 b) := HQ.out.alloc _
    exact ⟨rfl, h0, onl_below (below_draws ((Below.refl _ w).alloc (Nat.le_refl _) _) nq)⟩
end Go.Proofs.YtcliiefedmiokaaGreat
