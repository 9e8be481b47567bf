/-
  Texts of this claim, one behind the other: Pth, Path, Rev, PTo, Fnd, PToS, SpecP, Apl, SwS, SwsS, SwE.
-/
import Derived.Test.YtcliiefedmiokaaGreatPackT
import Derived.Test.YtcliiefedmiokaaGreatPackP
import Derived.RegionTactic
import Derived.BigRegion
import Derived.Deep.LoopGhost
import Derived.Test.YtcliiefedmiokaaGreatPackQ
import Derived.Test.YtcliiefedmiokaaGreatPackC
import Derived.Test.YtcliiefedmiokaaGreatPackO
/-
  pathTo of the program: from an image back to the first one, along the last switches.
-/
namespace Go.Proofs.YtcliiefedmiokaaGreat
open Go.RowKit
set_option maxRecDepth 100000

theorem Tryz.cellsSw : Tryz.prog.cellsOf 77 = 4 := by kernel_rfl
theorem Tryz.keyTySw : Tryz.prog.keyType 77 = true := by kernel_rfl
def Sw.wf (s : Sw) : Prop := (Lit.int .i64 s.y1).wf = true ∧ (Lit.int .i64 s.y2).wf = true ∧ (Lit.int .i64 s.x1).wf = true ∧ (Lit.int .i64 s.x2).wf = true
theorem intLitsM_mk (d : Nat) (x : Int) (h : (Lit.int .i64 x).wf = true) : Tryz.prog.keyLits (d + 1) 3 [.int .i64 x] = some [.int .i64 x] := by
  unfold Program.keyLits
  rw [Tryz.underlying3]
  simp only
  rw [if_pos ⟨trivial, h⟩]
theorem swLits_mk (d : Nat) (s : Sw) (h : s.wf) : Tryz.prog.keyLits (d + 2) 77 (swA s).toList = some [.int .i64 s.y1, .int .i64 s.y2, .int .i64 s.x1, .int .i64 s.x2] := by
  obtain ⟨h1, h2, h3, h4⟩ := h
  unfold Program.keyLits
  rw [Tryz.underlying77]
  simp only [swA]
  refine (if_pos ⟨by rw [Tryz.cellsSw]; rfl, by decide +kernel⟩).trans ?_
  simp only [Tryz.cellsI, List.mapM_cons, List.mapM_nil, List.drop_zero, List.take_succ_cons, List.take_zero, List.drop_succ_cons, bind, Option.bind, pure, Option.map, intLitsM_mk d _ h1, intLitsM_mk d _ h2, intLitsM_mk d _ h3, intLitsM_mk d _ h4]
  rfl
theorem run_neqSw {s u : Sw} (hs : s.wf) (hu : u.wf) (b : Bool) (hb : b = true ↔ s ≠ u) (w : World) : (binOp .neq 77 (swV s) (swV u)).run Tryz.prog w = .ok (.bool b) w := by
  have hm : Tryz.prog.types.size + 1 ≤ 10000 := of_decide_eq_true (by kernel_rfl)
  have hf : ∀ s : Sw, (swV s).formed Tryz.prog 77 = true := fun s => by simp [swV, swA, Value.formed, Tryz.underlying77, Tryz.cellsSw]
  obtain ⟨r, hr, hiff⟩ := run_equalIn_deep (10000 - (Tryz.prog.types.size + 1)) (Tryz.prog.types.size + 1) 77 Tryz.keyTySw w 2 2 (swV s) (swV u) _ _ (hf s) (hf u) (swLits_mk 0 s hs) (swLits_mk 0 u hu)
  rw [show 10000 - (Tryz.prog.types.size + 1) + (Tryz.prog.types.size + 1) = 10000 by omega] at hr
  have he : b = !r := by
    rw [Bool.eq_iff_iff, hb]
    have : r = true ↔ s = u := hiff.trans ⟨fun e => by obtain ⟨a1, a2, a3, a4⟩ := s; obtain ⟨b1, b2, b3, b4⟩ := u; simpa using e, fun e => by rw [e]⟩
    cases r <;> simp_all
  rw [he]
  unfold swV at hr ⊢
  simp only [binOp]
  simp [Op.equal, Op.maxDepth, hr]
theorem small_wf : ∀ n : Nat, n < 625 → (Lit.int .i64 (n : Int)).wf = true := by decide +kernel
theorem dec_wf {i : Nat} (h : i < 625) : (decS i).wf := by
  unfold decS Sw.wf
  exact ⟨small_wf _ (by omega), small_wf _ (by omega), small_wf _ (by omega), small_wf _ (by omega)⟩
theorem zero_wf : zeroSw.wf := ⟨rfl, rfl, rfl, rfl⟩
theorem swB_wf {R C : Nat} {x : List (List Int)} (hx : Node R C x) {s : Sw} (h : swB x s = true) : s.wf ∧ s ≠ zeroSw := by
  obtain ⟨i, hi, rfl⟩ := swB_num hx h
  refine ⟨dec_wf hi, fun e => ?_⟩
  rw [e] at h
  obtain ⟨f, rfl, hI⟩ := hx
  rw [swB_mk hI] at h
  obtain ⟨a, b, c, d, e1, h1⟩ := swF_iff.1 h
  obtain ⟨h2, -⟩ := four_iff.1 h1
  unfold zeroSw at e1
  simp only [Sw.mk.injEq] at e1
  omega
theorem tree_len {m : List (List Int)} {L : List (List (List Int))} {W : List (List Sw)} {a K : Nat} (h : Bfs m L W a K) : ∀ n i, i ≤ n → i < L.length → (W.getD i []).length ≤ i := by
  intro n
  induction n with
  | zero =>
    intro i hi hl
    rcases h.tree i hl with ⟨e, -⟩ | ⟨j, s, hj, -⟩
    · rw [e]; exact Nat.zero_le _
    · omega
  | succ n ih =>
    intro i hi hl
    rcases h.tree i hl with ⟨e, -⟩ | ⟨j, s, hj, e, -⟩
    · rw [e]; exact Nat.zero_le _
    · have := ih j (by omega) (by omega)
      rw [e, List.length_append, List.length_singleton]; omega
/-- The way of an image, and the one before it. -/
theorem tree_back {R C : Nat} {m : List (List Int)} {L : List (List (List Int))} {W : List (List Sw)} {a K : Nat} (hm : Node R C m) (h : Bfs m L W a K) {i : Nat} (hi : i < L.length) {n : Nat} (hn : (W.getD i []).length = n + 1) :
    ∃ j s, j < L.length ∧ W.getD i [] = W.getD j [] ++ [s] ∧ (W.getD j []).length = n ∧ swB (L.getD i []) s = true ∧ flipM (L.getD i []) s = L.getD j [] := by
  rcases h.tree i hi with ⟨e, -⟩ | ⟨j, s, hj, e1, e2, e3⟩
  · rw [e] at hn; simp at hn
  · have hj' : j < L.length := by omega
    have hN := bfs_node hm h hj'
    refine ⟨j, s, hj', e1, ?_, ?_, ?_⟩
    · rw [e1, List.length_append, List.length_singleton] at hn; omega
    · rw [e3]; exact swB_back hN e2
    · rw [e3]; exact flip_back hN s
end Go.Proofs.YtcliiefedmiokaaGreat
/-
  pathTo of the program, walked.
-/
namespace Go.Proofs.YtcliiefedmiokaaGreat
open Go.RowKit
set_option maxRecDepth 100000

/-- What stands at the loop: image i, its way still to go, the switches so far. -/
def PtSt (w : World) (R C b : Nat) (L : List (List (List Int))) (V : List (List Sw)) (P : List Sw) (i gw : Nat) (v : Value) (w' : World) : Prop :=
  ∃ path, path ++ (V.getD i []).reverse = P.reverse ∧ path.length + (V.getD i []).length = P.length ∧ SwAt w' gw (lastS (V.getD i [])) ∧ w.heap.size + 1 ≤ gw ∧ v.ownBlock ≠ some gw ∧ Blk w' w.heap.size 84 25 (imgC R C (L.getD i [])) ∧ OwnSws w' (w.heap.size + 1) v path ∧ ImgMap w' b (ksOf R C L V) ∧ Below w.heap.size w w'
end Go.Proofs.YtcliiefedmiokaaGreat
/-
  slices.Reverse at switches.
-/
namespace Go.Proofs.YtcliiefedmiokaaGreat
open Go.RowKit
set_option maxRecDepth 100000

theorem grown_drewR {w w' : World} {row : Option Nat} (h : w.grownBy w' row) : w.grownBy w'.drew row := ⟨h.os, h.tape, h.output, h.size, h.block⟩
/-- Turned round from both ends, k places in. -/
def revF (l : List Sw) (k : Nat) : List Sw := (List.range l.length).map fun t => if t < k ∨ l.length ≤ t + k then l.getD (l.length - 1 - t) zeroSw else l.getD t zeroSw
theorem revF_len (l : List Sw) (k : Nat) : (revF l k).length = l.length := by simp [revF]
theorem revF_at (l : List Sw) (k t : Nat) (h : t < (revF l k).length) : (revF l k)[t] = if t < k ∨ l.length ≤ t + k then l.getD (l.length - 1 - t) zeroSw else l.getD t zeroSw := by simp [revF]
theorem revF_zero (l : List Sw) : revF l 0 = l := by
  refine List.ext_getElem (revF_len l 0) fun t h1 h2 => ?_
  rw [revF_at, if_neg (by omega), List.getD_eq_getElem?_getD, List.getElem?_eq_getElem h2]; rfl
theorem revF_end {l : List Sw} {k : Nat} (h : l.length ≤ 2 * k + 1) : revF l k = l.reverse := by
  refine List.ext_getElem (by rw [revF_len]; simp) fun t h1 h2 => ?_
  have ht : t < l.length := by simpa using h2
  rw [revF_at, List.getElem_reverse]
  by_cases e : t < k ∨ l.length ≤ t + k
  · rw [if_pos e, List.getD_eq_getElem?_getD, List.getElem?_eq_getElem (by omega)]; rfl
  · rw [if_neg e, List.getD_eq_getElem?_getD, List.getElem?_eq_getElem (by omega), Option.getD_some]
    congr 1; omega
theorem revF_step {l : List Sw} {k q : Nat} (h : k + q + 1 = l.length) (hkq : k < q) : ((revF l k).set k (l.getD q zeroSw)).set q (l.getD k zeroSw) = revF l (k + 1) := by
  refine List.ext_getElem (by simp [revF_len]) fun t h1 h2 => ?_
  have ht : t < l.length := by rw [revF_len] at h2; exact h2
  rw [List.getElem_set, List.getElem_set, revF_at, revF_at]
  by_cases e1 : q = t
  · subst e1
    rw [if_pos rfl, if_pos (by omega), show l.length - 1 - q = k by omega]
  · rw [if_neg e1]
    by_cases e2 : k = t
    · subst e2
      rw [if_pos rfl, if_pos (by omega), show l.length - 1 - k = q by omega]
    · rw [if_neg e2]
      by_cases e : t < k ∨ l.length ≤ t + k
      · rw [if_pos e, if_pos (by omega)]
      · rw [if_neg e, if_neg (by omega)]
theorem cellsS_set : ∀ (l : List Sw) (k : Nat) (s : Sw), k < l.length → cellsS (l.set k s) = set4 (cellsS l) (k * 4) s
  | [], k, s, h => by simp at h
  | x :: l, 0, s, _ => by simp [cellsS, set4]
  | x :: l, k + 1, s, h => by
    have ih := cellsS_set l k s (by simpa using h)
    have e1 : ∀ l : List Sw, cellsS (x :: l) = .int .i64 x.y1 :: .int .i64 x.y2 :: .int .i64 x.x1 :: .int .i64 x.x2 :: cellsS l := fun l => by simp [cellsS]
    rw [List.set_cons_succ, e1, ih, e1]
    unfold set4
    rw [show (k + 1) * 4 = k * 4 + 1 + 1 + 1 + 1 by omega, show k * 4 + 1 + 1 + 1 + 1 + 1 = (k * 4 + 1) + 1 + 1 + 1 + 1 by omega, show k * 4 + 1 + 1 + 1 + 1 + 2 = (k * 4 + 2) + 1 + 1 + 1 + 1 by omega, show k * 4 + 1 + 1 + 1 + 1 + 3 = (k * 4 + 3) + 1 + 1 + 1 + 1 by omega]
    simp only [List.set_cons_succ]
theorem revF_q (l : List Sw) {k q : Nat} (h : k + q + 1 = l.length) (hkq : k < q) : (revF l k).getD k zeroSw = l.getD k zeroSw ∧ (revF l k).getD q zeroSw = l.getD q zeroSw := by
  have h1 : k < (revF l k).length := by rw [revF_len]; omega
  have h2 : q < (revF l k).length := by rw [revF_len]; omega
  rw [List.getD_eq_getElem?_getD, List.getD_eq_getElem?_getD (l := revF l k), List.getElem?_eq_getElem h1, List.getElem?_eq_getElem h2, Option.getD_some, Option.getD_some, revF_at, revF_at, if_neg (by omega), if_neg (by omega)]
  exact ⟨rfl, rfl⟩
end Go.Proofs.YtcliiefedmiokaaGreat
/-
  PathTo of the program.
-/
namespace Go.Proofs.YtcliiefedmiokaaGreat
open Go.RowKit
set_option maxRecDepth 100000

def pathB (m l : List (List Int)) : Bool := sameB m l && (decide (m.length ≤ 4) && decide (widthM m ≤ 4))
/-- What PathTo answers. -/
def PathRes (m l : List (List Int)) (w : World) (e : Ending) (w' : World) : Prop :=
  ∃ v P, e = .returned (.tuple #[v, .bool (pathB m l)]) ∧ OwnSws w' w.heap.size v P ∧ Below w.heap.size w w' ∧ (pathB m l = true → Best m l P) ∧ (pathB m l = false → P = [])
theorem pathRes_no {m l : List (List Int)} {w w' : World} (h : pathB m l = false) (hb : Below w.heap.size w w') : PathRes m l w (.returned (.tuple #[.slice none 0 0, .bool false])) w' :=
  ⟨_, [], by rw [h], ownSws_nil _ _, hb, fun e => (by rw [h] at e; cases e), fun _ => rfl⟩
/-- The map of a search that has found t. -/
def mapF (R C : Nat) (m t : List (List Int)) : FactP := fun u w2 => ∃ b L V k K i, u = .map (some b) ∧ Bfs m L V k K ∧ i < L.length ∧ L.getD i [] = t ∧ ImgMap w2 b (ksOf R C L V)
theorem stable_mapF (R C : Nat) (m t : List (List Int)) : StableP (mapF R C m t) := fun _ _ _ hb h => by
  obtain ⟨b, L, V, k, K, i, h1, h2, h3, h4, h5⟩ := h
  exact ⟨b, L, V, k, K, i, h1, h2, h3, h4, imgMap_below h5 hb⟩
/-- A way to t that is the best one. -/
def wayF (base : Nat) (m t : List (List Int)) : FactP := fun u w2 => ∃ P, OwnSws w2 base u P ∧ Best m t P
theorem stable_wayF (base : Nat) (m t : List (List Int)) : StableP (wayF base m t) := fun _ _ _ hb h => ⟨h.choose, ownSws_below h.choose_spec.1 hb, h.choose_spec.2⟩
/-- What NextTo answers. -/
def NextRes (m l : List (List Int)) (w : World) (e : Ending) (w' : World) : Prop :=
  ∃ P : List Sw, e = .returned (.tuple #[swV (P.headD zeroSw), .bool (!P.isEmpty)]) ∧ Below w.heap.size w w' ∧ (pathB m l = true → Best m l P) ∧ (pathB m l = false → P = [])
end Go.Proofs.YtcliiefedmiokaaGreat
/-
  l06Find and l06Small of the model.
-/
namespace Go.Proofs.YtcliiefedmiokaaGreat
open Go.RowKit
set_option maxRecDepth 100000

/-- A list of lists of lists that reads. -/
def InImgs (w : World) (v : Value) (L : List (List (List Int))) : Prop :=
  ∃ a c, v = .slice a L.length c ∧ L.length ≤ maxLen ∧ (L.length = 0 ∨ ∃ g o, a = some ⟨g, o, none⟩ ∧ g < w.heap.size ∧ ∀ i, (h : i < L.length) → ∃ u, w.cell? ⟨g, o + i, none⟩ = some u ∧ InMat w u L[i])
theorem inImgs_below {w w' : World} {v : Value} {L : List (List (List Int))} (h : InImgs w v L) (hb : Below w.heap.size w w') : InImgs w' v L := by
  obtain ⟨a, c, hv, hm, hp⟩ := h
  refine ⟨a, c, hv, hm, ?_⟩
  rcases hp with h0 | ⟨g, o, ha, hg, hc⟩
  · exact .inl h0
  · refine .inr ⟨g, o, ha, Nat.lt_of_lt_of_le hg hb.size, fun i hi => ?_⟩
    obtain ⟨u, h1, h2⟩ := hc i hi
    exact ⟨u, below_cell hb hg h1, inMat_below h2 hb⟩
/-- What l06Find answers. -/
def FindRes (L : List (List (List Int))) (m : List (List Int)) (w : World) (e : Ending) (w' : World) : Prop :=
  ∃ r : Int, e = .returned (.int .i64 r) ∧ Below w.heap.size w w' ∧ ((r = -1 ∧ m ∉ L) ∨ ∃ k : Nat, r = k ∧ ∃ h : k < L.length, L[k] = m)
end Go.Proofs.YtcliiefedmiokaaGreat
/-
  PathTo and NextTo of the model, out of what its search leaves.
-/
namespace Go.Proofs.YtcliiefedmiokaaGreat
open Go.RowKit
set_option maxRecDepth 100000

/-- Lists of switches of the call's own, one behind the other. -/
def OwnWays (w : World) (lo : Nat) (v : Value) (V : List (List Sw)) : Prop :=
  ∃ a c, v = .slice a V.length c ∧ (V.length = 0 ∨ ∃ g, a = some ⟨g, 0, none⟩ ∧ g < w.heap.size ∧ ∀ i, (h : i < V.length) → ∃ u, w.cell? ⟨g, i, none⟩ = some u ∧ OwnSws w lo u V[i])
theorem ownWays_below {w w' : World} {lo : Nat} {v : Value} {V : List (List Sw)} (h : OwnWays w lo v V) (hb : Below w.heap.size w w') : OwnWays w' lo v V := by
  obtain ⟨a, c, hv, hp⟩ := h
  refine ⟨a, c, hv, ?_⟩
  rcases hp with h0 | ⟨g, ha, hg, hc⟩
  · exact .inl h0
  · refine .inr ⟨g, ha, Nat.lt_of_lt_of_le hg hb.size, fun i hi => ?_⟩
    obtain ⟨u, h1, h2⟩ := hc i hi
    exact ⟨u, below_cell hb hg h1, ownSws_below h2 hb⟩
end Go.Proofs.YtcliiefedmiokaaGreat
/-
  PutCell of the model.
-/
namespace Go.Proofs.YtcliiefedmiokaaGreat
open Go.RowKit

set_option maxRecDepth 100000 in
set_option maxHeartbeats 1000000 in
theorem l02Copy_any (v : Value) (R C : Nat) (f : Nat → Nat → Int) (w : World) (hin : InMat w v (mkM R C f)) (hI : Img R C f) :
    Calls Tryz.prog 61 #[v] w (MatRes (mkM R C f) w) := by
  have hR1 := hI.r1; have hC1 := hI.c1; have hR := hI.r2; have hC := hI.c2
  obtain ⟨g, o, c, rfl, hg, hcell⟩ := inMat_img hin (by omega) (by omega)
  have HC := hide hcell
  clear hin hI hcell
  go_enter Tryz.func61, Tryz.ntmps61
  go_wp2
  go_loopw [3, 9] (fun u i w' => ∃ (y : Nat) (v : Value), y ≤ R ∧ i = .int .i64 y ∧ v = u ∧ OwnMat w' w.heap.size w'.heap.size v (mkM y C f) ∧ Below w.heap.size w w') (fun _ i _ => R - (intOf i).toNat)
  case atStart => exact ⟨0, _, by omega, rfl, rfl, ⟨[], World.ownsRow_made (base := w.heap.size) w #[] 0 (Nat.le_refl _) (Nat.zero_le _) rfl, (fun k e => by simp [Value.ownBlock] at e; subst e; simp), (fun i h => absurd h (Nat.not_lt_zero _)), fun i j _ h => absurd h (Nat.not_lt_zero _)⟩, (Below.refl _ _).alloc (Nat.le_refl _) _⟩
  case round =>
    obtain ⟨y, v, hy, rfl, rfl, hown, hb⟩ := hrel
    have HO := hide hown; have HB := hide hb
    clear hown hb
    by_cases hlt : y < R
    · have hyI : (y : Int) < R := by omega
      have hsz := HB.out.size
      obtain ⟨g', o', c', hx, hg', hcc⟩ := HC.out y hlt
      have hx := below_cell HB.out hg hx
      have HCC : Hid (∀ j, (h : j < (rowF C (f y)).length) → (wr.alloc (.cells #[] 3)).cell? ⟨g', o' + j, none⟩ = some (.int .i64 (rowF C (f y))[j])) := hide (fun j h => by
        rw [rowF_at, below_cell (w := wr) ((Below.refl _ _).alloc (Nat.le_refl _) _) (by omega) (below_cell HB.out hg' (hcc j (by rw [rowF_len] at h; exact h)))])
      have HE : Hid ((wr.alloc (.cells #[] 3)).ownsRow wr.heap.size 3 1 (.slice (some ⟨wr.heap.size, 0, none⟩) 0 0) 0 []) := hide (World.ownsRow_made (base := wr.heap.size) wr #[] 0 (Nat.le_refl _) (Nat.zero_le _) rfl)
      have HLN := hide (rowF_len C (f y))
      have HB1 := hide (HB.out.alloc hsz (.cells #[] 3))
      have HW1 := hide (below_cell (w := wr) (w' := wr.alloc (.cells #[] 3)) ((Below.refl _ _).alloc (Nat.le_refl _) _) (show g < wr.heap.size by omega) hx)
      have HO1 := hide (ownMat_below HO.out ((Below.refl wr.heap.size wr).alloc (Nat.le_refl _) (.cells #[] 3)))
      have hs0 : (wr.alloc (.cells #[] 3)).heap.size = wr.heap.size + 1 := by simp
      have HS0 := hide hs0
      clear hcc hs0
      go_wp2_with (first | (refine wpList_appendRow 16 rfl HE.out (rowF C (f y)) g' o' c' (.int .i64 0) rfl _ _ rfl Tryz.underlying30 Tryz.infoInt rfl (by decide) rfl (by rw [HLN.out]; rfl) HCC.out (by rw [HLN.out]; omega) (by rw [HS0.out]; omega) ?_; intro u2 w2 hu2 hb2 hg2; rw [HLN.out, Nat.zero_add, List.nil_append] at hu2; obtain ⟨ua, uc, rfl⟩ := own_slice hu2; have HU := hide hu2; have O2 := hide (ownMat_within HO1.out (within_grown (lo := wr.heap.size) (hi := wr.heap.size + 1) hg2 fun k e => by simp [Value.ownBlock] at e; omega) (.inl (Nat.le_refl _))); have B2 := hide (HB1.out.trans (hb2.mono hsz)); have hs2 := hb2.size; rw [HS0.out] at hs2; clear hu2 hb2 hg2; obtain ⟨vs, hv, hvh, hvr, hva⟩ := O2.out; have hvl := mkM_len y C f; rw [hvl] at hv; have HV := hide hv; have HVR := hide hvr; have HVA := hide hva; clear hv hvh hvr hva hvl) | (at_builtin; refine wpList_push HV.out (.slice ua C uc) (.slice none 0 0) rfl _ _ rfl Tryz.underlying22 Tryz.infoInts rfl (by decide) rfl rfl rfl (by omega) (by omega) ?_; intro v' w6 hown1 hb1 hg1))
      go_roundw
      case rel =>
        have hs6 := hb1.size
        have hp := ownMat_push (r := rowF C (f y)) (hi' := w6.heap.size) HVR.out HVA.out (by rw [mkM_len]; exact HV.out) (by rw [HLN.out]; exact HU.out) hsz (by omega) (by omega) hg1 (by rw [mkM_len]; exact hown1) (fun k e => (hown1.lt k e).2)
        rw [← mkM_succ] at hp
        exact ⟨y + 1, _, by omega, by go_num, rfl, hp, B2.out.trans (hb1.mono (by omega))⟩
      case measure => simp [intOf]; omega
    · obtain rfl : y = R := by omega
      go_wp2
      go_ret
      exact ⟨_, rfl, HO.out, HB.out⟩

theorem cellOk_in (c : Int) : decide (0 ≤ c ∧ c ≤ 1) = cellOk c := by
  unfold cellOk
  by_cases h0 : c = 0
  · subst h0; rfl
  · by_cases h1 : c = 1
    · subst h1; rfl
    · rw [decide_eq_false (by omega)]; simp [h0, h1]
theorem mkM_put (R C : Nat) (f : Nat → Nat → Int) (y x : Nat) (c : Int) : (mkM R C fun a b => if a = y ∧ b = x then c else f a b) = mkM R C (putM f y x c) := rfl
end Go.Proofs.YtcliiefedmiokaaGreat
/-
  l06Apply of the model: an image after one of its switches.
-/
namespace Go.Proofs.YtcliiefedmiokaaGreat
open Go.RowKit

/-- The cells after the first n of the four. -/
def stepM (f : Nat → Nat → Int) (a b c d : Nat) : Nat → Nat → Nat → Int
  | 0 => f
  | n + 1 => fun y x => if y = pickN a b (n / 2) ∧ x = pickN c d (n % 2) then 1 - f y x else stepM f a b c d n y x
theorem stepM_all (f : Nat → Nat → Int) (a b c d : Nat) : stepM f a b c d 4 = flipN f a b c d := by
  have e : stepM f a b c d 4 = fun y x => if y = b ∧ x = d then 1 - f y x else if y = b ∧ x = c then 1 - f y x else if y = a ∧ x = d then 1 - f y x else if y = a ∧ x = c then 1 - f y x else f y x := rfl
  rw [e]
  funext y x
  unfold flipN
  by_cases h1 : y = a <;> by_cases h2 : y = b <;> by_cases h3 : x = c <;> by_cases h4 : x = d <;> simp [h1, h2, h3, h4]
theorem stepM_cell {R C : Nat} {f : Nat → Nat → Int} (h : Img R C f) (a b c d : Nat) : ∀ n, Img R C (stepM f a b c d n)
  | 0 => h
  | n + 1 => ⟨h.r1, h.r2, h.c1, h.c2, fun y x hy hx => by
    have := h.cell y x hy hx
    have := (stepM_cell h a b c d n).cell y x hy hx
    unfold stepM
    split <;> omega⟩

/-- Two integers in a block. -/
def PairAt (w : World) (g a b : Nat) : Prop := w.heap[g]? = some (.cells #[.int .i64 (a : Int), .int .i64 (b : Int)] 3 (0, 0))
theorem pair_lt {w : World} {g a b : Nat} (h : PairAt w g a b) : g < w.heap.size := (Array.getElem?_eq_some_iff.1 h).1
theorem pair_below {w w' : World} {g a b : Nat} (h : PairAt w g a b) (hb : Below w.heap.size w w') : PairAt w' g a b := by
  unfold PairAt; rw [hb.block g (pair_lt h)]; exact h
theorem pair_set {w : World} {g a b : Nat} (h : PairAt w g a b) (p : Addr) (v : Value) (hne : g ≠ p.block) : PairAt (w.setCell p v) g a b := by
  unfold PairAt; rw [heap_setCell_other w p g v hne]; exact h
theorem pair_cell {w : World} {g a b : Nat} (h : PairAt w g a b) (i : Nat) (hi : i < 2) : w.cell? ⟨g, i, none⟩ = some (.int .i64 ((pickN a b i : Nat) : Int)) := by
  rw [cell_of_row w g i _ _ _ h]
  have : i = 0 ∨ i = 1 := by omega
  rcases this with rfl | rfl <;> rfl
set_option maxRecDepth 100000 in
set_option maxHeartbeats 4000000 in
theorem l06Apply_any (v : Value) (R C : Nat) (f : Nat → Nat → Int) (a b c d : Nat) (w : World) (hin : InMat w v (mkM R C f)) (hI : Img R C f) (ha : a < R) (hb : b < R) (hc : c < C) (hd : d < C) :
    Calls Tryz.prog 64 #[v, swV ⟨a, b, c, d⟩] w (MatRes (mkM R C (flipN f a b c d)) w) := by
  rw [← stepM_all]
  have hR := hI.r2; have hC := hI.c2; have hR1 := hI.r1; have hC1 := hI.c1
  have HPA : Hid (∀ i, pickN a b i < R) := hide fun i => by unfold pickN; split <;> omega
  have HPC : Hid (∀ i, pickN c d i < C) := hide fun i => by unfold pickN; split <;> omega
  have HSTEP : Hid (∀ n, stepM f a b c d (n + 1) = fun y x => if y = pickN a b (n / 2) ∧ x = pickN c d (n % 2) then 1 - f y x else stepM f a b c d n y x) := hide fun _ => rfl
  have HZERO : Hid (stepM f a b c d 0 = f) := hide rfl
  obtain ⟨G, hG⟩ : ∃ G, G = stepM f a b c d := ⟨_, rfl⟩
  rw [← hG] at HSTEP HZERO ⊢
  clear hG
  have HI := hide hin; have H := hide hI
  have HCELL := hide hI.cell
  obtain ⟨g0, o0, c0, rfl, hg0, hcell⟩ := inMat_img hin (by omega) (by omega)
  have HC := hide hcell
  obtain ⟨s, hs⟩ : ∃ s : Sw, s = ⟨a, b, c, d⟩ := ⟨_, rfl⟩
  have HSW := hide hs
  rw [← hs]
  clear hs hin hI hcell
  go_enter Tryz.func64, Tryz.ntmps64
  go_wp2_with (first | (with_reducible refine wpList_boxSw s 3 rfl rfl (.tmp 1) rfl rfl ?_; intro w0 hs0 b0 s0) | ((with_reducible refine (l02Copy_any _ R C f _ (inMat_below HI.out b0) H.out).mono ?_); rintro e w1 ⟨u, rfl, hu, hb1⟩; obtain ⟨g, cap, rfl⟩ := ownMat_some hu (by rw [mkM_len]; omega); rw [mkM_len] at hu ⊢; have hs1 := swAt_below hs0 hb1; have hb2 := b0.trans (hb1.mono b0.size); have hsz1 := hb1.size; obtain ⟨d0, d1, d2, d3⟩ := swAt_cells hs1; rw [HSW.out] at d0 d1 d2 d3))
  obtain ⟨w2, hw2⟩ : ∃ w2, w2 = w1.alloc (.cells #[.int .i64 (a : Int), .int .i64 (b : Int)] 3) := ⟨_, rfl⟩
  obtain ⟨gy, hgy⟩ : ∃ gy, gy = w1.heap.size := ⟨_, rfl⟩
  have hal := (Below.refl w1.heap.size w1).alloc (Nat.le_refl _) (.cells #[.int .i64 (a : Int), .int .i64 (b : Int)] 3)
  have HO := hide (ownMat_below hu hal)
  have HPY : Hid (PairAt (w1.alloc (.cells #[.int .i64 (a : Int), .int .i64 (b : Int)] 3)) w1.heap.size a b) := hide (heap_alloc_new w1 _)
  have HS := hide (swAt_below hs1 hal)
  have HB := hide (hb2.trans (hal.mono hb2.size))
  rw [← hw2, s0, ← hgy, ← HZERO.out] at HO
  rw [← hw2, ← hgy] at HPY
  rw [← hw2] at HS HB
  rw [← hw2, ← hgy]
  have hgyw : w.heap.size + 1 ≤ gy := by rw [hgy]; omega
  clear hw2 hgy hal hu hs1 hb2 hb1 hs0 b0 s0 hsz1 d0 d1 d2 d3
  go_loopw [18] (fun u w' => ∃ i : Nat, i ≤ 2 ∧ u = .int .i64 i ∧ OwnMat w' (w.heap.size + 1) gy (.slice (some ⟨g, 0, none⟩) R cap) (mkM R C (G (2 * i))) ∧ PairAt w' gy a b ∧ SwAt w' w.heap.size s ∧ Below w.heap.size w w') (fun u _ => 2 - (intOf u).toNat)
  case atStart => exact ⟨0, by omega, rfl, HO.out, HPY.out, HS.out, HB.out⟩
  case round =>
    clear HO HPY HS HB
    obtain ⟨i, hi, rfl, ho, hpy, hsw, hbw⟩ := hrel
    have HO := hide ho; have HPY := hide hpy; have HS := hide hsw; have HB := hide hbw
    clear ho hpy hsw hbw
    by_cases hlt : i < 2
    · have hiI : (i : Int) < 2 := by omega
      have hcy := pair_cell HPY.out i hlt
      obtain ⟨d0, d1, d2, d3⟩ := swAt_cells HS.out
      rw [HSW.out] at d0 d1 d2 d3
      have hgy1 := pair_lt HPY.out
      go_wp2
      obtain ⟨w3, hw3⟩ : ∃ w3, w3 = wr.alloc (.cells #[.int .i64 (c : Int), .int .i64 (d : Int)] 3) := ⟨_, rfl⟩
      obtain ⟨gx, hgx⟩ : ∃ gx, gx = wr.heap.size := ⟨_, rfl⟩
      have hal := (Below.refl wr.heap.size wr).alloc (Nat.le_refl _) (.cells #[.int .i64 (c : Int), .int .i64 (d : Int)] 3)
      have HPX : Hid (PairAt (wr.alloc (.cells #[.int .i64 (c : Int), .int .i64 (d : Int)] 3)) wr.heap.size c d) := hide (heap_alloc_new wr _)
      replace HO := hide (ownMat_below HO.out hal); replace HPY := hide (pair_below HPY.out hal); replace HS := hide (swAt_below HS.out hal)
      replace HB := hide (HB.out.trans (hal.mono HB.out.size))
      rw [← hw3, ← hgx] at HPX
      rw [← hw3] at HO HPY HS HB
      rw [← hw3, ← hgx]
      have hgxy : gy < gx := by rw [hgx]; exact hgy1
      clear hw3 hgx hal d0 d1 d2 d3 hcy hgy1
      go_loopw [28] (fun u w' => ∃ j : Nat, j ≤ 2 ∧ u = .int .i64 j ∧ OwnMat w' (w.heap.size + 1) gy (.slice (some ⟨g, 0, none⟩) R cap) (mkM R C (G (2 * i + j))) ∧ PairAt w' gy a b ∧ PairAt w' gx c d ∧ SwAt w' w.heap.size s ∧ Below w.heap.size w w') (fun u _ => 2 - (intOf u).toNat)
      case atStart => exact ⟨0, by omega, rfl, HO.out, HPY.out, HPX.out, HS.out, HB.out⟩
      case round =>
        clear HO HPY HPX HS HB
        obtain ⟨j, hj, rfl, ho, hpy, hpx, hsw, hbw⟩ := hrel
        have HO := hide ho; have HPY := hide hpy; have HPX := hide hpx; have HS := hide hsw; have HB := hide hbw
        clear ho hpy hpx hsw hbw
        by_cases hlj : j < 2
        · have hjI : (j : Int) < 2 := by omega
          have hcx := pair_cell HPX.out j hlj
          have hyR := HPA.out i
          have hxC := HPC.out j
          obtain ⟨g1, k1, q1, hcl, hfr, hg1, hg1h, hset⟩ := ownMat_cell HO.out _ _ hyR hxC
          obtain ⟨g2, o2, k2, q2, hg2, hcc⟩ := HC.out _ hyR
          have q3 := below_cell HB.out hg2 (hcc _ hxC)
          replace q2 := below_cell HB.out hg0 q2
          obtain ⟨z, hz⟩ : ∃ z, z = f (pickN a b i) (pickN c d j) := ⟨_, rfl⟩
          have hz01 : 0 ≤ z ∧ z ≤ 1 := by have := HCELL.out _ _ hyR hxC; omega
          obtain ⟨hz0, hz1⟩ := hz01
          have hwz : IntKind.i64.wrap (1 - z) = 1 - z := IntWalk.i64_in _ (by omega)
          have HST : Hid ((fun y x => if y = pickN a b i ∧ x = pickN c d j then 1 - z else G (2 * i + j) y x) = G (2 * i + (j + 1))) := hide (by
            have := HSTEP.out (2 * i + j)
            rw [show (2 * i + j) / 2 = i by omega, show (2 * i + j) % 2 = j by omega] at this
            rw [← Nat.add_assoc, this]
            funext y x
            by_cases e : y = pickN a b i ∧ x = pickN c d j
            · rw [if_pos e, if_pos e, hz, e.1, e.2]
            · rw [if_neg e, if_neg e])
          rw [← hz] at q3
          have hyI : ((pickN a b i : Nat) : Int) < R := by omega
          have hxI : ((pickN c d j : Nat) : Int) < C := by omega
          obtain ⟨z0, hz0'⟩ : ∃ z0, z0 = G (2 * i + j) (pickN a b i) (pickN c d j) := ⟨_, rfl⟩
          rw [← hz0'] at hcl
          clear hcc hz hz0'
          go_wp2
          obtain ⟨fs, hfs⟩ : ∃ fs : List FactP, fs = [isV (.slice (some ⟨g, 0, none⟩) R cap), isV (.int .i64 ((pickN a b i : Nat) : Int)), isV (.pointer (some ⟨g, pickN a b i, none⟩)), isV (.slice (some ⟨g1, 0, none⟩) C k1), isV (.int .i64 ((pickN c d j : Nat) : Int)), isV (.slice (some ⟨g0, o0, none⟩) R c0), isV (.int .i64 ((pickN a b i : Nat) : Int)), isV (.pointer (some ⟨g0, o0 + pickN a b i, none⟩)), isV (.slice (some ⟨g2, o2, none⟩) C k2), isV (.int .i64 ((pickN c d j : Nat) : Int)), isV (.pointer (some ⟨g2, o2 + pickN c d j, none⟩)), isV (.int .i64 z), isV (.int .i64 (1 - z)), isV (.pointer (some ⟨g1, pickN c d j, none⟩))] := ⟨_, rfl⟩
          have hst : ∀ f ∈ fs, StableP f := by
            rw [hfs]; intro f hf
            simp only [List.mem_cons, List.not_mem_nil, or_false] at hf
            rcases hf with rfl | rfl | rfl | rfl | rfl | rfl | rfl | rfl | rfl | rfl | rfl | rfl | rfl | rfl <;> exact stable_v _
          subst hfs
          refine wp_region_tail (S := fun w2 => w2 = wr.drew) [isV (.slice (some ⟨g, 0, none⟩) R cap), isV (.int .i64 ((pickN a b i : Nat) : Int)), isV (.pointer (some ⟨g, pickN a b i, none⟩)), isV (.slice (some ⟨g1, 0, none⟩) C k1), isV (.int .i64 ((pickN c d j : Nat) : Int)), isV (.slice (some ⟨g0, o0, none⟩) R c0), isV (.int .i64 ((pickN a b i : Nat) : Int)), isV (.pointer (some ⟨g0, o0 + pickN a b i, none⟩)), isV (.slice (some ⟨g2, o2, none⟩) C k2), isV (.int .i64 ((pickN c d j : Nat) : Int)), isV (.pointer (some ⟨g2, o2 + pickN c d j, none⟩)), isV (.int .i64 z), isV (.int .i64 (1 - z)), isV (.pointer (some ⟨g1, pickN c d j, none⟩))] [(0, .slice (some ⟨g0, o0, none⟩) R c0), (5, .slice (some ⟨g, 0, none⟩) R cap), (7, .int .i64 ((pickN a b i : Nat) : Int)), (9, .int .i64 ((pickN c d j : Nat) : Int))] _ _ 14 (by kernel_rfl) rfl rfl (by kernel_rfl) (by kernel_rfl) rfl (by kernel_rfl) ?base rfl ?ob rfl ?fin
          case base =>
            intro t v ht
            simp only [List.lookup_cons, List.lookup_nil] at ht
            repeat' split at ht
            all_goals first | (cases ht; done) | (obtain rfl := Option.some.inj ht; rename_i hh; obtain rfl := eq_of_beq hh; rfl)
          case ob =>
            exact ⟨obt_move (.slice (some ⟨g, 0, none⟩) R cap) rfl rfl rfl (srt_b 5 rfl),
              obt_move (.int .i64 ((pickN a b i : Nat) : Int)) rfl rfl rfl (srt_b 7 rfl),
              obt_two (.pointer (some ⟨g, pickN a b i, none⟩)) rfl rfl (srt_j 0 rfl (by kernel_rfl) rfl) (srt_j 1 rfl (by kernel_rfl) rfl) (fun ρ w2 hS hx hy => by go_simp),
              obt_one (.slice (some ⟨g1, 0, none⟩) C k1) rfl rfl (srt_j 2 rfl (by kernel_rfl) rfl) (fun ρ w2 hS hx => by subst hS; go_simp),
              obt_move (.int .i64 ((pickN c d j : Nat) : Int)) rfl rfl rfl (srt_b 9 rfl),
              obt_move (.slice (some ⟨g0, o0, none⟩) R c0) rfl rfl rfl (srt_b 0 rfl),
              obt_move (.int .i64 ((pickN a b i : Nat) : Int)) rfl rfl rfl (srt_b 7 rfl),
              obt_two (.pointer (some ⟨g0, o0 + pickN a b i, none⟩)) rfl rfl (srt_j 5 rfl (by kernel_rfl) rfl) (srt_j 6 rfl (by kernel_rfl) rfl) (fun ρ w2 hS hx hy => by go_simp),
              obt_one (.slice (some ⟨g2, o2, none⟩) C k2) rfl rfl (srt_j 7 rfl (by kernel_rfl) rfl) (fun ρ w2 hS hx => by subst hS; go_simp),
              obt_move (.int .i64 ((pickN c d j : Nat) : Int)) rfl rfl rfl (srt_b 9 rfl),
              obt_two (.pointer (some ⟨g2, o2 + pickN c d j, none⟩)) rfl rfl (srt_j 8 rfl (by kernel_rfl) rfl) (srt_j 9 rfl (by kernel_rfl) rfl) (fun ρ w2 hS hx hy => by go_simp),
              obt_one (.int .i64 z) rfl rfl (srt_j 10 rfl (by kernel_rfl) rfl) (fun ρ w2 hS hx => by subst hS; go_simp),
              obt_two (.int .i64 (1 - z)) rfl rfl (srt_c (v := .int .i64 1)) (srt_j 11 rfl (by kernel_rfl) rfl) (fun ρ w2 hS hx hy => by go_simp),
              obt_two (.pointer (some ⟨g1, pickN c d j, none⟩)) rfl rfl (srt_j 3 rfl (by kernel_rfl) rfl) (srt_j 4 rfl (by kernel_rfl) rfl) (fun ρ w2 hS hx hy => by go_simp),
              trivial⟩
          case fin =>
            intro a' w' h1 h2 h3 hS h4 K hK
            have ha := frame_ov rfl h1 h2 h3 [(32, .slice (some ⟨g, 0, none⟩) R cap), (33, .int .i64 ((pickN a b i : Nat) : Int)), (34, .pointer (some ⟨g, pickN a b i, none⟩)), (35, .slice (some ⟨g1, 0, none⟩) C k1), (36, .int .i64 ((pickN c d j : Nat) : Int)), (37, .slice (some ⟨g0, o0, none⟩) R c0), (38, .int .i64 ((pickN a b i : Nat) : Int)), (39, .pointer (some ⟨g0, o0 + pickN a b i, none⟩)), (40, .slice (some ⟨g2, o2, none⟩) C k2), (41, .int .i64 ((pickN c d j : Nat) : Int)), (42, .pointer (some ⟨g2, o2 + pickN c d j, none⟩)), (43, .int .i64 z), (44, .int .i64 (1 - z)), (45, .pointer (some ⟨g1, pickN c d j, none⟩))] (by kernel_rfl) ⟨h4 0 32 rfl (by decide), h4 1 33 rfl (by decide), h4 2 34 rfl (by decide), h4 3 35 rfl (by decide), h4 4 36 rfl (by decide), h4 5 37 rfl (by decide), h4 6 38 rfl (by decide), h4 7 39 rfl (by decide), h4 8 40 rfl (by decide), h4 9 41 rfl (by decide), h4 10 42 rfl (by decide), h4 11 43 rfl (by decide), h4 12 44 rfl (by decide), h4 13 45 rfl (by decide), trivial⟩
            dsimp only [ov, List.lookup, Nat.reduceBEq, Nat.reduceAdd] at ha
            have v45 : a'.tmps.getD 45 undef = .pointer (some ⟨g1, pickN c d j, none⟩) := h4 13 45 rfl (by decide)
            have v44 : a'.tmps.getD 44 undef = .int .i64 (1 - z) := h4 12 44 rfl (by decide)
            subst hS
            refine run_skip (exec_storeInt (u := z0) rfl v45 v44 hcl hfr) (hK undef _ ?_)
            show Exit.inBlock _ _ Exit.normal a' _
            have E1 : Hid (OwnMat (wr.drew.setCell ⟨g1, pickN c d j, none⟩ (.int .i64 (1 - z))) (w.heap.size + 1) gy (.slice (some ⟨g, 0, none⟩) R cap) (mkM R C (G (2 * i + (j + 1))))) := hide (by have := hset (1 - z); rw [HST.out] at this; exact this)
            have E2 : Hid (PairAt (wr.drew.setCell ⟨g1, pickN c d j, none⟩ (.int .i64 (1 - z))) gy a b) := hide (pair_set HPY.out _ _ (by simp; omega))
            have E3 : Hid (PairAt (wr.drew.setCell ⟨g1, pickN c d j, none⟩ (.int .i64 (1 - z))) gx c d) := hide (pair_set HPX.out _ _ (by simp; omega))
            have E4 : Hid (SwAt (wr.drew.setCell ⟨g1, pickN c d j, none⟩ (.int .i64 (1 - z))) w.heap.size s) := hide (swAt_set (swAt_below HS.out (below_drew (Below.refl _ _))) _ _ (by simp; omega))
            have E5 : Hid (Below w.heap.size w (wr.drew.setCell ⟨g1, pickN c d j, none⟩ (.int .i64 (1 - z)))) := hide ((below_drew HB.out).setCell (by simp only; omega) _)
            clear v44 v45
            generalize wr.drew.setCell ⟨g1, pickN c d j, none⟩ (.int .i64 (1 - z)) = w9 at E1 E2 E3 E4 E5 ⊢
            rw [ha]
            clear ha h1 h2 h3 h4 hst hK
            go_wp2
            go_roundw
            case rel => exact ⟨j + 1, by omega, by go_num, E1.out, E2.out, E3.out, E4.out, E5.out⟩
            case measure => simp [intOf]; omega
        · obtain rfl : j = 2 := by omega
          go_wp2
          go_roundw
          case rel => exact ⟨i + 1, by omega, by go_num, HO.out, HPY.out, HS.out, HB.out⟩
          case measure => simp [intOf]; omega
    · obtain rfl : i = 2 := by omega
      go_wp2
      go_ret
      exact ⟨_, rfl, ownMat_mono HO.out (Nat.le_succ _) (Nat.le_of_lt (pair_lt HPY.out)), HB.out⟩
theorem specApply_img (v : Value) (R C : Nat) (f : Nat → Nat → Int) (s : Sw) (w : World) (hin : InMat w v (mkM R C f)) (hI : Img R C f) (hs : swF R C f s = true) :
    Calls Tryz.prog 64 #[v, swV s] w (MatRes (mkM R C (flipF f s)) w) := by
  obtain ⟨a, b, c, d, rfl, h⟩ := swF_iff.1 hs
  obtain ⟨h1, h2, h3, h4, -⟩ := four_iff.1 h
  exact l06Apply_any v R C f a b c d w hin hI (by omega) h3 (by omega) h4
end Go.Proofs.YtcliiefedmiokaaGreat
/-
  SwitchOk of the model.
-/
namespace Go.Proofs.YtcliiefedmiokaaGreat
open Go.RowKit

set_option maxHeartbeats 400000 in
theorem specSwitchOk_no (v : Value) (m : List (List Int)) (s : Sw) (w : World) (hin : InMat w v m) (h : okB m = false) :
    Calls Tryz.prog 109 #[v, swV s] w fun e w' => e = .returned (.bool false) ∧ Below w.heap.size w w' := by
  have HI := hide hin; have H := hide h
  clear hin h
  go_enter Tryz.func109, Tryz.ntmps109
  go_wp2_with (first | (with_reducible refine wpList_boxSw s 3 rfl rfl (.tmp 1) rfl rfl ?_; intro w2 h2 b2 s2; clear s2; obtain ⟨c0, c1, c2, c3⟩ := swAt_cells h2) | ((with_reducible refine (l02In_no v m s.y1 s.x1 _ (inMat_below HI.out b2) H.out).mono ?_); rintro e w' ⟨rfl, rfl⟩))
  go_ret
  exact ⟨rfl, b2⟩
theorem swF_no {R C : Nat} {f : Nat → Nat → Int} {s : Sw} (h : ¬ ((0 ≤ s.y1 ∧ s.y1 < R ∧ 0 ≤ s.x1 ∧ s.x1 < C) ∧ (0 ≤ s.y2 ∧ s.y2 < R ∧ 0 ≤ s.x2 ∧ s.x2 < C) ∧ s.y1 < s.y2 ∧ s.x1 < s.x2)) : swF R C f s = false := by
  rw [Bool.eq_false_iff]
  intro e
  obtain ⟨a, b, c, d, rfl, hf⟩ := swF_iff.1 e
  obtain ⟨h1, h2, h3, h4, -⟩ := four_iff.1 hf
  exact h (by simp only; omega)
set_option maxHeartbeats 400000 in
theorem specSwitchOk_one (v : Value) (R C : Nat) (f : Nat → Nat → Int) (s : Sw) (w : World) (hin : InMat w v (mkM R C f)) (hI : Img R C f) (h1 : ¬ (0 ≤ s.y1 ∧ s.y1 < R ∧ 0 ≤ s.x1 ∧ s.x1 < C)) :
    Calls Tryz.prog 109 #[v, swV s] w fun e w' => e = .returned (.bool (swF R C f s)) ∧ Below w.heap.size w w' := by
  have HI := hide hin; have H := hide hI
  have H1 := hide (show false = true ↔ _ from ⟨fun e => (by cases e), fun e => absurd e h1⟩)
  have HF := hide (swF_no (R := R) (C := C) (f := f) fun e => h1 e.1)
  clear h1
  clear hin hI
  go_enter Tryz.func109, Tryz.ntmps109
  go_wp2_with (first | (with_reducible refine wpList_boxSw s 3 rfl rfl (.tmp 1) rfl rfl ?_; intro w2 h2 b2 s2; clear s2; obtain ⟨c0, c1, c2, c3⟩ := swAt_cells h2) | ((with_reducible refine (l02In_img v R C f s.y1 s.x1 _ (inMat_below HI.out b2) H.out false H1.out).mono ?_); rintro e w' ⟨rfl, rfl⟩))
  go_ret
  exact ⟨ret_bool HF.out.symm, b2⟩
set_option maxHeartbeats 400000 in
theorem specSwitchOk_two (v : Value) (R C : Nat) (f : Nat → Nat → Int) (s : Sw) (w : World) (hin : InMat w v (mkM R C f)) (hI : Img R C f) (h1 : 0 ≤ s.y1 ∧ s.y1 < R ∧ 0 ≤ s.x1 ∧ s.x1 < C) (h2 : ¬ (0 ≤ s.y2 ∧ s.y2 < R ∧ 0 ≤ s.x2 ∧ s.x2 < C)) :
    Calls Tryz.prog 109 #[v, swV s] w fun e w' => e = .returned (.bool (swF R C f s)) ∧ Below w.heap.size w w' := by
  have HI := hide hin; have H := hide hI
  have H1 := hide h1
  have H2 := hide (show false = true ↔ _ from ⟨fun e => (by cases e), fun e => absurd e h2⟩)
  have HF := hide (swF_no (R := R) (C := C) (f := f) fun e => h2 e.2.1)
  clear h1 h2
  clear hin hI
  go_enter Tryz.func109, Tryz.ntmps109
  go_wp2_with (first | (with_reducible refine wpList_boxSw s 3 rfl rfl (.tmp 1) rfl rfl ?_; intro w2 h2 b2 s2; clear s2; obtain ⟨c0, c1, c2, c3⟩ := swAt_cells h2) | ((with_reducible refine (l02In_img v R C f s.y1 s.x1 _ (inMat_below HI.out b2) H.out true ⟨fun _ => H1.out, fun _ => rfl⟩).mono ?_); rintro e w' ⟨rfl, rfl⟩) | ((with_reducible refine (l02In_img v R C f s.y2 s.x2 _ (inMat_below HI.out b2) H.out false H2.out).mono ?_); rintro e w' ⟨rfl, rfl⟩))
  go_ret
  exact ⟨ret_bool HF.out.symm, b2⟩
set_option maxHeartbeats 400000 in
theorem specSwitchOk_three (v : Value) (R C : Nat) (f : Nat → Nat → Int) (s : Sw) (w : World) (hin : InMat w v (mkM R C f)) (hI : Img R C f) (h1 : 0 ≤ s.y1 ∧ s.y1 < R ∧ 0 ≤ s.x1 ∧ s.x1 < C) (h2 : 0 ≤ s.y2 ∧ s.y2 < R ∧ 0 ≤ s.x2 ∧ s.x2 < C) (h3 : ¬ s.y1 < s.y2) :
    Calls Tryz.prog 109 #[v, swV s] w fun e w' => e = .returned (.bool (swF R C f s)) ∧ Below w.heap.size w w' := by
  have HI := hide hin; have H := hide hI
  have H1 := hide h1
  have H2 := hide h2
  have HF := hide (swF_no (R := R) (C := C) (f := f) fun e => h3 e.2.2.1)
  clear h1 h2
  clear hin hI
  go_enter Tryz.func109, Tryz.ntmps109
  go_wp2_with (first | (with_reducible refine wpList_boxSw s 3 rfl rfl (.tmp 1) rfl rfl ?_; intro w2 h2 b2 s2; clear s2; obtain ⟨c0, c1, c2, c3⟩ := swAt_cells h2) | ((with_reducible refine (l02In_img v R C f s.y1 s.x1 _ (inMat_below HI.out b2) H.out true ⟨fun _ => H1.out, fun _ => rfl⟩).mono ?_); rintro e w' ⟨rfl, rfl⟩) | ((with_reducible refine (l02In_img v R C f s.y2 s.x2 _ (inMat_below HI.out b2) H.out true ⟨fun _ => H2.out, fun _ => rfl⟩).mono ?_); rintro e w' ⟨rfl, rfl⟩))
  all_goals first
    | (exfalso; omega)
    | (go_ret; exact ⟨ret_bool HF.out.symm, b2⟩)
set_option maxHeartbeats 400000 in
theorem specSwitchOk_four (v : Value) (R C : Nat) (f : Nat → Nat → Int) (s : Sw) (w : World) (hin : InMat w v (mkM R C f)) (hI : Img R C f) (h1 : 0 ≤ s.y1 ∧ s.y1 < R ∧ 0 ≤ s.x1 ∧ s.x1 < C) (h2 : 0 ≤ s.y2 ∧ s.y2 < R ∧ 0 ≤ s.x2 ∧ s.x2 < C) (h3 : s.y1 < s.y2) (h4 : ¬ s.x1 < s.x2) :
    Calls Tryz.prog 109 #[v, swV s] w fun e w' => e = .returned (.bool (swF R C f s)) ∧ Below w.heap.size w w' := by
  have HI := hide hin; have H := hide hI
  have H1 := hide h1
  have H2 := hide h2
  have HF := hide (swF_no (R := R) (C := C) (f := f) fun e => h4 e.2.2.2)
  clear h1 h2
  clear hin hI
  go_enter Tryz.func109, Tryz.ntmps109
  go_wp2_with (first | (with_reducible refine wpList_boxSw s 3 rfl rfl (.tmp 1) rfl rfl ?_; intro w2 h2 b2 s2; clear s2; obtain ⟨c0, c1, c2, c3⟩ := swAt_cells h2) | ((with_reducible refine (l02In_img v R C f s.y1 s.x1 _ (inMat_below HI.out b2) H.out true ⟨fun _ => H1.out, fun _ => rfl⟩).mono ?_); rintro e w' ⟨rfl, rfl⟩) | ((with_reducible refine (l02In_img v R C f s.y2 s.x2 _ (inMat_below HI.out b2) H.out true ⟨fun _ => H2.out, fun _ => rfl⟩).mono ?_); rintro e w' ⟨rfl, rfl⟩))
  all_goals first
    | (exfalso; omega)
    | (go_ret; exact ⟨ret_bool HF.out.symm, b2⟩)
set_option maxHeartbeats 2000000 in
theorem specSwitchOk_five (v : Value) (R C : Nat) (f : Nat → Nat → Int) (a b c d : Nat) (w : World) (hin : InMat w v (mkM R C f)) (hI : Img R C f) (hab : a < b) (hcd : c < d) (hb : b < R) (hd : d < C) :
    Calls Tryz.prog 109 #[v, swV ⟨a, b, c, d⟩] w fun e w' => e = .returned (.bool (swF R C f ⟨a, b, c, d⟩)) ∧ Below w.heap.size w w' := by
  have HI := hide hin; have H := hide hI
  have H1 := hide (show 0 ≤ (a : Int) ∧ (a : Int) < R ∧ 0 ≤ (c : Int) ∧ (c : Int) < C by omega)
  have H2 := hide (show 0 ≤ (b : Int) ∧ (b : Int) < R ∧ 0 ≤ (d : Int) ∧ (d : Int) < C by omega)
  have hfa := hI.cell a c (by omega) (by omega)
  have HF : Hid (swF R C f ⟨a, b, c, d⟩ = (decide (f b d = f a c) && decide (f a d = 1 - f a c) && decide (f b c = 1 - f a c))) := hide (by
    unfold swF four
    simp only [Int.toNat_natCast]
    rw [decide_eq_true hab, decide_eq_true hcd, decide_eq_true hb, decide_eq_true hd, decide_eq_true (show (0 : Int) ≤ a by omega), decide_eq_true (show (0 : Int) ≤ c by omega), decide_eq_true (show (a : Int) < b by omega), decide_eq_true (show (c : Int) < d by omega)]
    simp only [Bool.true_and])
  rw [HF.out]
  obtain ⟨g, o, cap, rfl, hg, hcell⟩ := inMat_img hin (by omega) (by omega)
  obtain ⟨g1, o1, k1, hx1, hg1, hc1⟩ := hcell a (by omega)
  obtain ⟨g2, o2, k2, hx2, hg2, hc2⟩ := hcell b (by omega)
  have r1 := hc1 c (by omega); have r2 := hc1 d (by omega); have r3 := hc2 c (by omega); have r4 := hc2 d (by omega)
  obtain ⟨A, hA⟩ : ∃ A, A = f a c := ⟨_, rfl⟩
  obtain ⟨B, hB⟩ : ∃ B, B = f a d := ⟨_, rfl⟩
  obtain ⟨E, hE⟩ : ∃ E, E = f b c := ⟨_, rfl⟩
  obtain ⟨D, hD⟩ : ∃ D, D = f b d := ⟨_, rfl⟩
  rw [← hA] at r1 hfa ⊢; rw [← hB] at r2 ⊢; rw [← hE] at r3 ⊢; rw [← hD] at r4 ⊢
  have hw1 : IntKind.i64.wrap (1 - A) = 1 - A := IntWalk.i64_in _ (by omega)
  have hA0 : 0 ≤ A := by omega
  have hA1 : A ≤ 1 := by omega
  have haR : (a : Int) < R := by omega
  have hbR : (b : Int) < R := by omega
  have hcC : (c : Int) < C := by omega
  have hdC : (d : Int) < C := by omega
  have habI : (a : Int) < b := by omega
  have hcdI : (c : Int) < d := by omega
  have hle : ¬ (b : Int) ≤ a := by omega
  clear hin hI hcell hc1 hc2 hA hB hE hD hfa HF
  by_cases e1 : D = A
  · subst e1
    have k1 : (D == D) = true := beq_iff_eq.2 rfl
    by_cases e2 : B = 1 - D
    · subst e2
      have k2 : (1 - D == 1 - D) = true := beq_iff_eq.2 rfl
      by_cases e3 : E = 1 - D
      · subst e3
        go_enter Tryz.func109, Tryz.ntmps109
        go_wp2_with (first | (with_reducible refine wpList_boxSw ⟨a, b, c, d⟩ 3 rfl rfl (.tmp 1) rfl rfl ?_; intro w2 h2 b2 s2; clear s2; obtain ⟨c0, c1, c2, c3⟩ := swAt_cells h2; replace hx1 := below_cell b2 hg hx1; replace hx2 := below_cell b2 hg hx2; replace r1 := below_cell b2 hg1 r1; replace r2 := below_cell b2 hg1 r2; replace r3 := below_cell b2 hg2 r3; replace r4 := below_cell b2 hg2 r4) | ((with_reducible refine (l02In_img _ R C f a c _ (inMat_below HI.out b2) H.out true ⟨fun _ => H1.out, fun _ => rfl⟩).mono ?_); rintro e w' ⟨rfl, rfl⟩) | ((with_reducible refine (l02In_img _ R C f b d _ (inMat_below HI.out b2) H.out true ⟨fun _ => H2.out, fun _ => rfl⟩).mono ?_); rintro e w' ⟨rfl, rfl⟩))
        go_quiet (fail)
        go_wp2
        go_quiet (fail)
        go_wp2
        go_ret
        exact ⟨ret_bool (by rw [Bool.eq_iff_iff]; simp), below_draws (below_draws b2 _) _⟩
      · have k3 : (E == 1 - D) = false := beq_eq_false_iff_ne.2 e3
        have E3 := hide e3
        clear e3
        go_enter Tryz.func109, Tryz.ntmps109
        go_wp2_with (first | (with_reducible refine wpList_boxSw ⟨a, b, c, d⟩ 3 rfl rfl (.tmp 1) rfl rfl ?_; intro w2 h2 b2 s2; clear s2; obtain ⟨c0, c1, c2, c3⟩ := swAt_cells h2; replace hx1 := below_cell b2 hg hx1; replace hx2 := below_cell b2 hg hx2; replace r1 := below_cell b2 hg1 r1; replace r2 := below_cell b2 hg1 r2; replace r3 := below_cell b2 hg2 r3; replace r4 := below_cell b2 hg2 r4) | ((with_reducible refine (l02In_img _ R C f a c _ (inMat_below HI.out b2) H.out true ⟨fun _ => H1.out, fun _ => rfl⟩).mono ?_); rintro e w' ⟨rfl, rfl⟩) | ((with_reducible refine (l02In_img _ R C f b d _ (inMat_below HI.out b2) H.out true ⟨fun _ => H2.out, fun _ => rfl⟩).mono ?_); rintro e w' ⟨rfl, rfl⟩))
        go_quiet (fail)
        go_wp2
        go_quiet (fail)
        go_wp2
        go_ret
        exact ⟨ret_bool (by rw [Bool.eq_iff_iff]; simp [E3.out]), below_draws (below_draws b2 _) _⟩
    · have k2 : (B == 1 - D) = false := beq_eq_false_iff_ne.2 e2
      have E2 := hide e2
      clear e2
      go_enter Tryz.func109, Tryz.ntmps109
      go_wp2_with (first | (with_reducible refine wpList_boxSw ⟨a, b, c, d⟩ 3 rfl rfl (.tmp 1) rfl rfl ?_; intro w2 h2 b2 s2; clear s2; obtain ⟨c0, c1, c2, c3⟩ := swAt_cells h2; replace hx1 := below_cell b2 hg hx1; replace hx2 := below_cell b2 hg hx2; replace r1 := below_cell b2 hg1 r1; replace r2 := below_cell b2 hg1 r2; replace r3 := below_cell b2 hg2 r3; replace r4 := below_cell b2 hg2 r4) | ((with_reducible refine (l02In_img _ R C f a c _ (inMat_below HI.out b2) H.out true ⟨fun _ => H1.out, fun _ => rfl⟩).mono ?_); rintro e w' ⟨rfl, rfl⟩) | ((with_reducible refine (l02In_img _ R C f b d _ (inMat_below HI.out b2) H.out true ⟨fun _ => H2.out, fun _ => rfl⟩).mono ?_); rintro e w' ⟨rfl, rfl⟩))
      go_quiet (fail)
      go_wp2
      go_quiet (fail)
      go_wp2
      go_ret
      exact ⟨ret_bool (by rw [Bool.eq_iff_iff]; simp [E2.out]), below_draws (below_draws b2 _) _⟩
  · have k1 : (D == A) = false := beq_eq_false_iff_ne.2 e1
    have E1 := hide e1
    clear e1
    go_enter Tryz.func109, Tryz.ntmps109
    go_wp2_with (first | (with_reducible refine wpList_boxSw ⟨a, b, c, d⟩ 3 rfl rfl (.tmp 1) rfl rfl ?_; intro w2 h2 b2 s2; clear s2; obtain ⟨c0, c1, c2, c3⟩ := swAt_cells h2; replace hx1 := below_cell b2 hg hx1; replace hx2 := below_cell b2 hg hx2; replace r1 := below_cell b2 hg1 r1; replace r2 := below_cell b2 hg1 r2; replace r3 := below_cell b2 hg2 r3; replace r4 := below_cell b2 hg2 r4) | ((with_reducible refine (l02In_img _ R C f a c _ (inMat_below HI.out b2) H.out true ⟨fun _ => H1.out, fun _ => rfl⟩).mono ?_); rintro e w' ⟨rfl, rfl⟩) | ((with_reducible refine (l02In_img _ R C f b d _ (inMat_below HI.out b2) H.out true ⟨fun _ => H2.out, fun _ => rfl⟩).mono ?_); rintro e w' ⟨rfl, rfl⟩))
    go_quiet (fail)
    go_wp2
    go_quiet (fail)
    go_wp2
    go_ret
    exact ⟨ret_bool (by rw [Bool.eq_iff_iff]; simp [E1.out]), below_draws (below_draws b2 _) _⟩
theorem specSwitchOk_img (v : Value) (R C : Nat) (f : Nat → Nat → Int) (s : Sw) (w : World) (hin : InMat w v (mkM R C f)) (hI : Img R C f) :
    Calls Tryz.prog 109 #[v, swV s] w fun e w' => e = .returned (.bool (swF R C f s)) ∧ Below w.heap.size w w' := by
  by_cases h1 : 0 ≤ s.y1 ∧ s.y1 < R ∧ 0 ≤ s.x1 ∧ s.x1 < C
  · by_cases h2 : 0 ≤ s.y2 ∧ s.y2 < R ∧ 0 ≤ s.x2 ∧ s.x2 < C
    · by_cases h3 : s.y1 < s.y2
      · by_cases h4 : s.x1 < s.x2
        · obtain ⟨y1, y2, x1, x2⟩ := s
          simp only at h1 h2 h3 h4
          obtain ⟨a, rfl⟩ : ∃ a : Nat, y1 = a := ⟨y1.toNat, by omega⟩
          obtain ⟨b, rfl⟩ : ∃ b : Nat, y2 = b := ⟨y2.toNat, by omega⟩
          obtain ⟨c, rfl⟩ : ∃ c : Nat, x1 = c := ⟨x1.toNat, by omega⟩
          obtain ⟨d, rfl⟩ : ∃ d : Nat, x2 = d := ⟨x2.toNat, by omega⟩
          exact specSwitchOk_five v R C f a b c d w hin hI (by omega) (by omega) (by omega) (by omega)
        · exact specSwitchOk_four v R C f s w hin hI h1 h2 h3 h4
      · exact specSwitchOk_three v R C f s w hin hI h1 h2 h3
    · exact specSwitchOk_two v R C f s w hin hI h1 h2
  · exact specSwitchOk_one v R C f s w hin hI h1
end Go.Proofs.YtcliiefedmiokaaGreat
/-
  SwitchesOf of the model.
-/
namespace Go.Proofs.YtcliiefedmiokaaGreat
open Go.RowKit

theorem swB_dec {R C : Nat} {f : Nat → Nat → Int} (hI : Img R C f) {i : Nat} (h : swB (mkM R C f) (decS i) = true) : i / 125 < i / 25 % 5 ∧ i / 5 % 5 < i % 5 ∧ i / 25 % 5 < R ∧ i % 5 < C := by
  rw [swB_mk hI] at h
  obtain ⟨a, b, c, d, e1, h1⟩ := swF_iff.1 h
  obtain ⟨h2, h3, h4, h5, -⟩ := four_iff.1 h1
  unfold decS at e1
  simp only [Sw.mk.injEq] at e1
  omega
theorem upS_to {R C : Nat} {f : Nat → Nat → Int} (hI : Img R C f) {k l : Nat} (hkl : k ≤ l) (h : ∀ i, k ≤ i → i < l → i / 125 < i / 25 % 5 → i / 5 % 5 < i % 5 → i / 25 % 5 < R → i % 5 < C → False) : upS (mkM R C f) l = upS (mkM R C f) k :=
  upS_skip hkl fun i h1 h2 => by
    rw [Bool.eq_false_iff]
    intro e
    obtain ⟨g1, g2, g3, g4⟩ := swB_dec hI e
    exact h i h1 h2 g1 g2 g3 g4
set_option maxHeartbeats 400000 in
theorem specSwitchesOf_no (v : Value) (m : List (List Int)) (w : World) (hin : InMat w v m) (h : okB m = false) :
    Calls Tryz.prog 63 #[v] w (SwsRes [] w) := by
  have HI := hide hin; have H := hide h
  clear hin h
  go_enter Tryz.func63, Tryz.ntmps63
  go_wp2_with ((with_reducible refine (specImageOk_any v m _ HI.out).mono ?_); rw [H.out]; rintro e w' ⟨rfl, rfl⟩)
  go_ret
  exact ⟨_, rfl, ownSws_nil _ _, Below.refl _ _⟩
set_option maxRecDepth 100000 in
set_option maxHeartbeats 4000000 in
theorem specSwitchesOf_yes (v : Value) (R C : Nat) (f : Nat → Nat → Int) (w : World) (hin : InMat w v (mkM R C f)) (hI : Img R C f) :
    Calls Tryz.prog 63 #[v] w (SwsRes (swsM (mkM R C f)) w) := by
  have hR := hI.r2; have hC := hI.c2; have hR1 := hI.r1; have hC1 := hI.c1
  have HI := hide hin; have H := hide (img_ok hI)
  have HOK := hide fun s v w h => specSwitchOk_img v R C f s w h hI
  have HB' : Hid (∀ s, swF R C f s = swB (mkM R C f) s) := hide fun s => by rw [swB_mk hI]
  have T1 := hide fun a (_ : a < 5) => upS_to (f := f) hI (k := 125 * a) (l := 125 * a + 25 * (a + 1)) (by omega) fun i _ _ _ _ _ _ => by omega
  have T2 := hide fun a b x (_ : a < 5) (_ : b < 5) (_ : x < 5) => upS_to (f := f) hI (k := 125 * a + 25 * b + 5 * x) (l := 125 * a + 25 * b + 5 * x + (x + 1)) (by omega) fun i _ _ _ _ _ _ => by omega
  have T3 := hide fun a b x (_ : a < 5) (_ : b < 5) (_ : x < 5) => upS_to (f := f) hI (k := 125 * a + 25 * b + 5 * x + C) (l := 125 * a + 25 * b + 5 * (x + 1)) (by omega) fun i _ _ _ _ _ _ => by omega
  have T4 := hide fun a b (_ : a < 5) (_ : b < 5) => upS_to (f := f) hI (k := 125 * a + 25 * b + 5 * C) (l := 125 * a + 25 * (b + 1)) (by omega) fun i _ _ _ _ _ _ => by omega
  have T5 := hide fun a (_ : a < 5) => upS_to (f := f) hI (k := 125 * a + 25 * R) (l := 125 * (a + 1)) (by omega) fun i _ _ _ _ _ _ => by omega
  have T6 := hide (upS_to (f := f) hI (k := 125 * R) (l := 625) (by omega) fun i _ _ _ _ _ _ => by omega)
  have HDEC : Hid (∀ a b x y : Nat, b < 5 → x < 5 → y < 5 → decS (125 * a + 25 * b + 5 * x + y) = ⟨a, b, x, y⟩) := hide fun a b x y _ _ _ => by
    unfold decS
    rw [show (125 * a + 25 * b + 5 * x + y) / 125 = a by omega, show (125 * a + 25 * b + 5 * x + y) / 25 % 5 = b by omega, show (125 * a + 25 * b + 5 * x + y) / 5 % 5 = x by omega, show (125 * a + 25 * b + 5 * x + y) % 5 = y by omega]
  obtain ⟨g0, o0, c0, rfl, hg0, hcell⟩ := inMat_img hin (by omega) (by omega)
  obtain ⟨g1, o1, k1, r0, -⟩ := hcell 0 (by omega)
  rw [Nat.add_zero] at r0
  have HR0 := hide r0
  show Calls _ _ _ _ (SwsRes (upS (mkM R C f) 625) w)
  obtain ⟨m, hm⟩ : ∃ m, m = mkM R C f := ⟨_, rfl⟩
  rw [← hm] at T1 T2 T3 T4 T5 T6 HB' H HI ⊢
  rw [← hm] at HOK
  have HLEN := hide (upS_len m)
  have HYES := hide (fun k h => upS_yes (m := m) (k := k) h)
  have HNO := hide (fun k h => upS_no (m := m) (k := k) h)
  clear hm hin hI hcell r0
  go_enter Tryz.func63, Tryz.ntmps63
  go_wp2_with ((with_reducible refine (specImageOk_any _ m _ HI.out).mono ?_); rw [H.out]; rintro e w' ⟨rfl, rfl⟩)
  have HO : Hid (OwnSws (w.alloc (.cells #[] 77)) w.heap.size (.slice (some ⟨w.heap.size, 0, none⟩) 0 0) []) := hide (World.ownsRow_made (base := w.heap.size) w #[] 0 (Nat.le_refl _) (Nat.zero_le _) rfl)
  have HB := hide ((Below.refl w.heap.size w).alloc (Nat.le_refl _) (.cells #[] 77))
  generalize w.alloc (.cells #[] 77) = w1 at HO HB ⊢
  go_loopw [3, 15] (fun u t w' => ∃ (a : Nat) (v : Value), a ≤ R ∧ t = .int .i64 a ∧ v = u ∧ OwnSws w' w.heap.size v (upS m (125 * a)) ∧ Below w.heap.size w w') (fun _ t _ => R - (intOf t).toNat)
  case atStart => exact ⟨0, _, by omega, rfl, rfl, HO.out, HB.out⟩
  case round =>
    clear HO HB
    obtain ⟨a, v, ha, rfl, rfl, ho, hb⟩ := hrel
    have HO := hide ho; have HB := hide hb
    clear ho hb
    by_cases hla : a < R
    · have haI : (a : Int) < R := by omega
      rw [← T1.out a (by omega)] at HO
      go_wp2
      go_loopw [3, 5] (fun u t w' => ∃ (b : Nat) (v : Value), (a + 1 ≤ b ∧ b ≤ R) ∧ t = .int .i64 b ∧ v = u ∧ OwnSws w' w.heap.size v (upS m (125 * a + 25 * b)) ∧ Below w.heap.size w w') (fun _ t _ => R - (intOf t).toNat)
      case atStart => exact ⟨a + 1, _, by omega, by go_num, rfl, HO.out, HB.out⟩
      case round =>
        clear HO HB
        obtain ⟨b, v, ⟨hb1, hb2⟩, rfl, rfl, ho, hb⟩ := hrel
        have HO := hide ho; have HB := hide hb
        clear ho hb
        by_cases hlb : b < R
        · have hbI : (b : Int) < R := by omega
          have r0 := below_cell HB.out hg0 HR0.out
          go_wp2
          clear r0
          go_loopw [3, 30] (fun u t w' => ∃ (x : Nat) (v : Value), x ≤ C ∧ t = .int .i64 x ∧ v = u ∧ OwnSws w' w.heap.size v (upS m (125 * a + 25 * b + 5 * x)) ∧ Below w.heap.size w w') (fun _ t _ => C - (intOf t).toNat)
          case atStart => exact ⟨0, _, by omega, rfl, rfl, HO.out, HB.out⟩
          case round =>
            clear HO HB
            obtain ⟨x, v, hx, rfl, rfl, ho, hb⟩ := hrel
            have HO := hide ho; have HB := hide hb
            clear ho hb
            by_cases hlx : x < C
            · have hxI : (x : Int) < C := by omega
              rw [← T2.out a b x (by omega) (by omega) (by omega)] at HO
              go_wp2
              go_loopw [3, 7] (fun u t w' => ∃ (y : Nat) (v : Value), (x + 1 ≤ y ∧ y ≤ C) ∧ t = .int .i64 y ∧ v = u ∧ OwnSws w' w.heap.size v (upS m (125 * a + 25 * b + 5 * x + y)) ∧ Below w.heap.size w w') (fun _ t _ => C - (intOf t).toNat)
              case atStart => exact ⟨x + 1, _, by omega, by go_num, rfl, HO.out, HB.out⟩
              case round =>
                clear HO HB
                obtain ⟨y, v, ⟨hy1, hy2⟩, rfl, rfl, ho, hb⟩ := hrel
                have HO := hide ho; have HB := hide hb
                clear ho hb
                have r0 := below_cell HB.out hg0 HR0.out
                by_cases hly : y < C
                · have hyI : (y : Int) < C := by omega
                  obtain ⟨k, hk⟩ : ∃ k, k = 125 * a + 25 * b + 5 * x + y := ⟨_, rfl⟩
                  have HK := hide (show k < 1000 by omega)
                  have HDE := hide (HDEC.out a b x y (by omega) (by omega) (by omega))
                  rw [← hk] at HO HDE
                  have HKK : Hid (125 * a + 25 * b + 5 * x + (y + 1) = k + 1) := hide (by omega)
                  have HL := hide (HLEN.out k)
                  obtain ⟨s, hs⟩ : ∃ s : Sw, s = ⟨a, b, x, y⟩ := ⟨_, rfl⟩
                  have HSV := hide (show Value.agg #[.int .i64 (a : Int), .int .i64 (b : Int), .int .i64 (x : Int), .int .i64 (y : Int)] = swV s by rw [hs]; rfl)
                  rw [← hs] at HDE
                  have hsz := HB.out.size
                  clear hk hs
                  cases hsb : swB m s with
                  | false =>
                    have HSB := hide (show swF R C f s = false by rw [HB'.out, hsb])
                    have HN := hide (HNO.out k (by rw [HDE.out]; exact hsb))
                    clear hsb
                    go_wp2_with (first | ((with_reducible refine wpList_allocSw 8 rfl rfl rfl ?_); intro w7 h7 b7 s7) | ((refine wpList_storeSw h7 s rfl (.tmp 8) (.tmp 47) rfl rfl HSV.out ?_); intro w8 h8 g8 s8; have b8 := b7.trans (grown_below g8 (fun k hk => by cases hk; exact Nat.le_refl _) b7.size); have HO1 := hide (ownSws_below HO.out b8); have HB1 := hide (HB.out.trans (b8.mono HB.out.size)); clear h7 b7 s7 g8 s8 b8) | (with_reducible refine wpList_loadSwC (swC_at h8) 49 rfl rfl _ rfl rfl ?_) | ((with_reducible refine (HOK.out s _ _ (inMat_below HI.out HB1.out)).mono ?_); rw [HSB.out]; rintro e w9 ⟨rfl, b9⟩; replace HO1 := hide (ownSws_below HO1.out b9); have h9 := swAt_below h8 b9; replace HB1 := hide (HB1.out.trans (b9.mono HB1.out.size)); clear h8 b9) | (with_reducible refine wpList_loadSwC (swC_at h9) 52 rfl rfl _ rfl rfl ?_) | (refine wpList_buildOneA (swA s) _ 53 rfl rfl (.tmp 52) rfl rfl Tryz.underlying73 Tryz.infoSw (by decide) (by decide) rfl ?_) | (at_builtin; refine wpList_pushA HO1.out (swA s) _ rfl _ _ rfl Tryz.underlying73 Tryz.infoSw rfl (by decide) (by decide) rfl rfl rfl (swA_one s) (by have := HL.out; have := HK.out; omega) HB1.out.size ?_; intro g cap wa hown ba ga ata lta))
                    go_roundw
                    case rel => exact ⟨y + 1, _, by omega, by go_num, rfl, by rw [HKK.out, HN.out]; exact HO1.out, HB1.out⟩
                    case measure => simp [intOf]; omega
                  | true =>
                    have HSB := hide (show swF R C f s = true by rw [HB'.out, hsb])
                    have HN := hide (HYES.out k (by rw [HDE.out]; exact hsb))
                    clear hsb
                    go_wp2_with (first | ((with_reducible refine wpList_allocSw 8 rfl rfl rfl ?_); intro w7 h7 b7 s7) | ((refine wpList_storeSw h7 s rfl (.tmp 8) (.tmp 47) rfl rfl HSV.out ?_); intro w8 h8 g8 s8; have b8 := b7.trans (grown_below g8 (fun k hk => by cases hk; exact Nat.le_refl _) b7.size); have HO1 := hide (ownSws_below HO.out b8); have HB1 := hide (HB.out.trans (b8.mono HB.out.size)); clear h7 b7 s7 g8 s8 b8) | (with_reducible refine wpList_loadSwC (swC_at h8) 49 rfl rfl _ rfl rfl ?_) | ((with_reducible refine (HOK.out s _ _ (inMat_below HI.out HB1.out)).mono ?_); rw [HSB.out]; rintro e w9 ⟨rfl, b9⟩; replace HO1 := hide (ownSws_below HO1.out b9); have h9 := swAt_below h8 b9; replace HB1 := hide (HB1.out.trans (b9.mono HB1.out.size)); clear h8 b9) | (with_reducible refine wpList_loadSwC (swC_at h9) 52 rfl rfl _ rfl rfl ?_) | (refine wpList_buildOneA (swA s) _ 53 rfl rfl (.tmp 52) rfl rfl Tryz.underlying73 Tryz.infoSw (by decide) (by decide) rfl ?_) | (at_builtin; refine wpList_pushA HO1.out (swA s) _ rfl _ _ rfl Tryz.underlying73 Tryz.infoSw rfl (by decide) (by decide) rfl rfl rfl (swA_one s) (by have := HL.out; have := HK.out; omega) HB1.out.size ?_; intro g cap wa hown ba ga ata lta))
                    go_roundw
                    case rel =>
                      refine ⟨y + 1, _, by omega, by go_num, rfl, ?_, HB1.out.trans (ba.mono (Nat.le_refl _))⟩
                      rw [HKK.out, HN.out, HDE.out]
                      unfold OwnSws
                      rw [cellsS_snoc, List.length_append]
                      exact hown
                    case measure => simp [intOf]; omega
                · obtain rfl : y = C := by omega
                  have HT := hide (T3.out a b x (by omega) (by omega) (by omega))
                  go_wp2
                  go_roundw
                  case rel => exact ⟨x + 1, _, by omega, by go_num, rfl, by rw [HT.out]; exact HO.out, HB.out⟩
                  case measure => simp [intOf]; omega
            · obtain rfl : x = C := by omega
              have HT := hide (T4.out a b (by omega) (by omega))
              go_wp2
              go_roundw
              case rel => exact ⟨b + 1, _, by omega, by go_num, rfl, by rw [HT.out]; exact HO.out, HB.out⟩
              case measure => simp [intOf]; omega
        · obtain rfl : b = R := by omega
          have HT := hide (T5.out a (by omega))
          go_wp2
          go_roundw
          case rel => exact ⟨a + 1, _, by omega, by go_num, rfl, by rw [HT.out]; exact HO.out, HB.out⟩
          case measure => simp [intOf]; omega
    · obtain rfl : a = R := by omega
      go_wp2
      go_ret
      exact ⟨_, rfl, by rw [T6.out]; exact HO.out, HB.out⟩
end Go.Proofs.YtcliiefedmiokaaGreat
/-
  eqSwitch, eqSwitchS of the exact laws, at the same switches.
-/
namespace Go.Proofs.YtcliiefedmiokaaGreat
open Go.RowKit

theorem exec_loadSwC {ρ : Operand → Value} {o : Oper} {w : World} {x : Operand} {g k : Nat} {s : Sw} (ho : o.op = .load 77 x) (hx : ρ x = .pointer (some ⟨g, k, none⟩)) (hb : SwC w g k s) : (execOp ρ o).run Tryz.prog w = .ok (.value (swV s)) w := by
  obtain ⟨h0, h1, h2, h3⟩ := hb
  unfold execOp
  simp only [ho, hx]
  go_simp
  rfl
theorem exec_indexSw {ρ : Operand → Value} {o : Oper} {w : World} {x i : Operand} {g b n c k : Nat} (ho : o.op = .indexAddr 73 x i) (hx : ρ x = .slice (some ⟨g, b, none⟩) n c) (hi : ρ i = .int .i64 k) (hk : k < n) : (execOp ρ o).run Tryz.prog w = .ok (.value (.pointer (some ⟨g, b + k * 4, none⟩))) w := by
  have hkI : (k : Int) < n := by omega
  unfold execOp
  simp only [ho, hx, hi]
  go_simp

theorem exec_not {P : Program} {ρ : Operand → Value} {o : Oper} {w : World} {x : Operand} {T : TypeId} {b : Bool} (ho : o.op = .unOp .not T x) (hx : ρ x = .bool b) : (execOp ρ o).run P w = .ok (.value (.bool !b)) w := by
  unfold execOp
  simp only [ho, hx]
  rfl
end Go.Proofs.YtcliiefedmiokaaGreat
