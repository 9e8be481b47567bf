/-
  Texts of this claim, one behind the other: AllP, IntSSS, MskM, MskI.
-/
import Derived.Test.YtbogeghoekmbhaaGreatPackP
import Derived.Maps.OwnIn
import Derived.Test.YtbogeghoekmbhaaGreatPackB
import Derived.Test.YtbogeghoekmbhaaGreatPackO
import Derived.Test.YtbogeghoekmbhaaGreatPackE
/-
  slices.AppendSeq and Collect over all images, and AllImages of the program: each image in blocks of its own.
-/
namespace Go.Proofs.YtbogeghoekmbhaaGreat
open Go.RowKit Go.Shelf
attribute [local go_sem] Oper.semAt_some

/-- A list of images that the call owns, each in a range of blocks of its own, one range behind the other, the list's block in none of them. -/
def OwnIms (W : World) (lo : Nat) (v : Value) (ms : List (List (List Int))) : Prop :=
  ∃ (us : List Value) (a b : Nat → Nat), W.ownsRow lo 22 1 v ms.length us ∧
    (∀ i, (h : i < ms.length) → OwnMat W (a i) (b i) (us.getD i undef) ms[i] ∧ lo ≤ a i ∧ ∀ k, v.ownBlock = some k → k < a i ∨ b i ≤ k) ∧ ∀ i j, i < j → j < ms.length → b i ≤ a j
theorem sup_of (G : Nat → Prop) : ∀ n, (∀ k, G k → k < n) → ∃ b, (∀ k, G k → k < b) ∧ (b = 0 ∨ G (b - 1)) ∧ b ≤ n
  | 0, h => ⟨0, h, .inl rfl, Nat.le_refl _⟩
  | n + 1, h => by
    by_cases hg : G n
    · exact ⟨n + 1, h, .inr hg, Nat.le_refl _⟩
    · obtain ⟨b, h1, h2, h3⟩ := sup_of G n fun k hk => by
        have := h k hk
        rcases Nat.lt_or_ge k n with h4 | h4
        · exact h4
        · exact absurd (show G n by rw [show n = k by omega]; exact hk) hg
      exact ⟨b, h1, h2, by omega⟩
/-- What is known while the images are gathered: the box q, the slice in it, the images. -/
def Gath (q : Nat) (pre : List (List (List Int))) (A : Nat → Prop) (W : World) : Prop :=
  ∃ (v : Value) (us : List Value) (a b : Nat → Nat) (Gs : Nat → Nat → Prop), Boxed W q 39 v ∧ W.ownsRow q 22 1 v pre.length us ∧ (∀ k, v.ownBlock = some k → A k) ∧ A q ∧ (∀ k, A k → k < W.heap.size) ∧
    (∀ i, (h : i < pre.length) → ValM (us.getD i undef) pre[i] (a i) (Gs i) W ∧ (∀ k, Gs i k → A k ∧ a i ≤ k ∧ k < b i) ∧ (b i = 0 ∨ A (b i - 1)) ∧ q < a i ∧ ∀ k, v.ownBlock = some k → k < a i ∨ b i ≤ k) ∧
    ∀ i j, i < j → j < pre.length → b i ≤ a j
theorem gath_abid (q B : Nat) : AbidF B (Gath q) := by
  rintro pre A W W' ⟨v, us, a, b, Gs, h1, h2, h3, h4, h5, h6, h7⟩ - - - hs hk
  refine ⟨v, us, a, b, Gs, (hk q h1.lt (.inr h4)).trans h1, own_agr h2 fun k he => hk k (h5 k (h3 k he)) (.inr (h3 k he)), h3, h4, fun k ha => Nat.lt_of_lt_of_le (h5 k ha) hs, fun i hi => ?_, h7⟩
  obtain ⟨g1, g2, g3⟩ := h6 i hi
  exact ⟨valM_agr g1 fun k hg => hk k (h5 k (g2 k hg).1) (.inr (g2 k hg).1), g2, g3⟩
theorem gath_own {q : Nat} {pre : List (List (List Int))} {A : Nat → Prop} {W : World} (h : Gath q pre A W) : ∃ v, Boxed W q 39 v ∧ OwnIms W q v pre := by
  obtain ⟨v, us, a, b, Gs, h1, h2, h3, h4, h5, h6, h7⟩ := h
  refine ⟨v, h1, us, a, b, h2, fun i hi => ?_, h7⟩
  obtain ⟨g1, g2, g3, g4, g5⟩ := h6 i hi
  exact ⟨valM_own g1 fun k hk => (g2 k hk).2.2, by omega, g5⟩
/-- One more image. -/
theorem gath_push {q lo : Nat} {pre : List (List (List Int))} {m : List (List Int)} {A G : Nat → Prop} {W w1 W' : World} {v v' x : Value} {us : List Value} {a b : Nat → Nat} {Gs : Nat → Nat → Prop} {o : Obj} {vb : Value}
    (h1 : Boxed W q 39 v) (h2 : W.ownsRow q 22 1 v pre.length us) (h3 : ∀ k, v.ownBlock = some k → A k) (h4 : A q) (h5 : ∀ k, A k → k < W.heap.size)
    (h6 : ∀ i, (h : i < pre.length) → ValM (us.getD i undef) pre[i] (a i) (Gs i) W ∧ (∀ k, Gs i k → A k ∧ a i ≤ k ∧ k < b i) ∧ (b i = 0 ∨ A (b i - 1)) ∧ q < a i ∧ ∀ k, v.ownBlock = some k → k < a i ∨ b i ≤ k)
    (h7 : ∀ i j, i < j → j < pre.length → b i ≤ a j)
    (hval : ValM x m lo G W) (hA : ∀ k, A k → k < lo) (hG : ∀ k, G k → lo ≤ k ∧ k < W.heap.size)
    (ho : w1.ownsRow q 22 1 v' (pre.length + 1) (us ++ [x])) (hg : (W.alloc o).grownBy w1 v.ownBlock) (hl : v'.ownBlock = v.ownBlock ∨ v'.ownBlock = some (W.alloc o).heap.size) (hW' : W' = w1.setCell ⟨q, 0, none⟩ v') (hvb : vb = v') :
    ∃ A2, Gath q (pre ++ [m]) A2 W' ∧ ItGive A A2 G W W' := by
  subst hvb
  have hul : us.length = pre.length := by have := h2.1; omega
  have hb1 : Boxed w1 q 39 v := (h1.alloc o).kept hg ((h1.alloc o).not_row (by decide) (h2.alloc o))
  have hnr : some q ≠ vb.ownBlock := hb1.not_row (by decide) ho
  have hsz : W.heap.size + 1 ≤ w1.heap.size := by have := hg.size; simpa using this
  have hWs : W'.heap.size = w1.heap.size := by rw [hW']; simp [World.setCell]
  have hkeep : ∀ k, k < W.heap.size → k ≠ q → v.ownBlock ≠ some k → W'.heap[k]? = W.heap[k]? := fun k hk hq hv => by
    rw [hW', Below.heap_setCell _ _ _ _ hq, hg.block k (by simp; omega) (fun e => hv e.symm), Below.heap_alloc _ _ _ hk]
  obtain ⟨bn, hb2, hb3, hb4⟩ := sup_of G W.heap.size fun k hk => (hG k hk).2
  refine ⟨fun k => A k ∨ G k ∨ (W.heap.size ≤ k ∧ k < W'.heap.size), ⟨vb, us ++ [x], fun i => if i < pre.length then a i else lo, fun i => if i < pre.length then b i else bn, fun i => if i < pre.length then Gs i else G, ?_, ?_, ?_, .inl h4, ?_, ?_, ?_⟩, ⟨⟨?_, ?_, ?_, by omega, fun k hk hn => hkeep k hk (fun e => hn (e ▸ h4)) (fun e => hn (h3 k e))⟩, fun k hk => ?_⟩⟩
  · rw [hW']; exact hb1.set vb
  · rw [List.length_append, List.length_singleton]
    refine own_agr ho fun k hk => ?_
    rw [hW', Below.heap_setCell _ _ _ _ (fun e => hnr (by rw [hk, e]))]
  · intro k hk
    rcases hl with e | e
    · exact .inl (h3 k (by rw [← e]; exact hk))
    · rw [e] at hk
      have hk' := Option.some.inj hk
      have hlt := (ho.lt k (by rw [e]; exact hk)).2
      refine .inr (.inr ⟨?_, by omega⟩)
      have : (W.alloc o).heap.size = W.heap.size + 1 := by simp
      omega
  · intro k hk
    rcases hk with h | h | h
    · have := h5 k h; omega
    · have := (hG k h).2; omega
    · omega
  · intro i hi
    rw [List.length_append, List.length_singleton] at hi
    have hnew : ∀ k, vb.ownBlock = some k → v.ownBlock = some k ∨ W.heap.size ≤ k := fun k hk => by
      rcases hl with e | e
      · exact .inl (by rw [← e]; exact hk)
      · rw [e] at hk
        have hk' := Option.some.inj hk
        have : (W.alloc o).heap.size = W.heap.size + 1 := by simp
        exact .inr (by omega)
    by_cases e : i < pre.length
    · have e1 : (us ++ [x]).getD i undef = us.getD i undef := by simp [List.getD_eq_getElem?_getD, List.getElem?_append_left (show i < us.length by omega)]
      simp only [if_pos e, List.getElem_append_left e, e1]
      obtain ⟨g1, g2, g3, g4, g5⟩ := h6 i e
      refine ⟨valM_agr g1 fun k hk => hkeep k (h5 k (g2 k hk).1) ?_ ?_, fun k hk => ⟨.inl (g2 k hk).1, (g2 k hk).2⟩, g3.imp id .inl, g4, fun k hk => ?_⟩
      · have := (g2 k hk).2; omega
      · intro e2
        have := g5 k e2; have := (g2 k hk).2; omega
      · rcases hnew k hk with h | h
        · exact g5 k h
        · right
          rcases g3 with h0 | h0
          · omega
          · have := h5 _ h0; omega
    · obtain rfl : i = pre.length := by omega
      have e1 : (us ++ [x]).getD pre.length undef = x := by rw [← hul]; simp [List.getD_eq_getElem?_getD]
      simp only [if_neg e, e1]
      rw [show (pre ++ [m])[pre.length] = m by simp]
      refine ⟨valM_agr hval fun k hk => hkeep k (hG k hk).2 ?_ ?_, fun k hk => ⟨.inr (.inl hk), (hG k hk).1, hb2 k hk⟩, hb3.imp id (fun h => .inr (.inl h)), hA q h4, fun k hk => ?_⟩
      · have := (hG k hk).1; have := hA q h4; omega
      · intro e2
        have := hA k (h3 k e2); have := (hG k hk).1; omega
      · rcases hnew k hk with h | h
        · exact .inl (hA k (h3 k h))
        · exact .inr (by omega)
  · intro i j hij hj
    rw [List.length_append, List.length_singleton] at hj
    have hi : i < pre.length := by omega
    simp only [if_pos hi]
    by_cases e : j < pre.length
    · simp only [if_pos e]; exact h7 i j hij e
    · simp only [if_neg e]
      rcases (h6 i hi).2.2.1 with h | h
      · omega
      · have := hA _ h; omega
  · rw [hW']; exact hg.os
  · rw [hW']; exact hg.tape
  · rw [hW']; exact hg.output
  · rcases hk with h | h | h
    · exact .inl h
    · exact .inr (.inl h)
    · exact .inr (.inr h.1)
theorem ownIms_putObj {W : World} {lo k : Nat} {v : Value} {ms : List (List (List Int))} {o o' : Obj} (h : OwnIms W lo v ms) (hk : W.heap[k]? = some o) (ho : o.isCells = false) : OwnIms (W.putObj k o') lo v ms := by
  obtain ⟨us, a, b, h1, h2, h3⟩ := h
  refine ⟨us, a, b, ownsRow_putObj h1 _ hk ho, fun i hi => ?_, h3⟩
  obtain ⟨⟨vs, g1, g2, g3, g4⟩, g5⟩ := h2 i hi
  exact ⟨⟨vs, ownsRow_putObj g1 _ hk ho, g2, fun j hj => ⟨ownsRow_putObj (g3 j hj).1 _ hk ho, (g3 j hj).2⟩, g4⟩, g5⟩

theorem ownIms_below {W W' : World} {lo : Nat} {v : Value} {ms : List (List (List Int))} (h : OwnIms W lo v ms) (hb : Below W.heap.size W W') : OwnIms W' lo v ms := by
  obtain ⟨us, a, b, h1, h2, h3⟩ := h
  exact ⟨us, a, b, own_below h1 hb, fun i hi => ⟨ownMat_below (h2 i hi).1 hb, (h2 i hi).2⟩, h3⟩
theorem ownIms_base {W : World} {lo lo' : Nat} {v : Value} {ms : List (List (List Int))} (h : OwnIms W lo v ms) (hl : lo' ≤ lo) : OwnIms W lo' v ms := by
  obtain ⟨us, a, b, h1, h2, h3⟩ := h
  exact ⟨us, a, b, own_base h1 hl, fun i hi => ⟨(h2 i hi).1, Nat.le_trans hl (h2 i hi).2.1, (h2 i hi).2.2⟩, h3⟩
theorem ownIms_nil (W : World) (lo : Nat) : OwnIms W lo (.slice none 0 0) [] := ⟨[], fun _ => 0, fun _ => 0, World.ownsRow_nil _ _ _ _, fun _ h => absurd h (Nat.not_lt_zero _), fun _ _ _ h => absurd h (Nat.not_lt_zero _)⟩
/-- The call answers a list of images of its own, apart, and a bool. -/
def ImsRes2 (ms : List (List (List Int))) (b : Bool) (w : World) (e : Ending) (w' : World) : Prop := ∃ v, e = .returned (.tuple #[v, .bool b]) ∧ OwnIms w' w.heap.size v ms ∧ Below w.heap.size w w'
end Go.Proofs.YtbogeghoekmbhaaGreat
/-
  Lists of images: read, marked and held.
-/
namespace Go.Proofs.YtbogeghoekmbhaaGreat
open Go.RowKit

def In3F (w : World) (v : Value) (n : Nat) (F : Nat → List (List Int)) : Prop :=
  ∃ a c, v = .slice a n c ∧ n ≤ maxLen ∧ (n = 0 ∨ ∃ g o, a = some ⟨g, o, none⟩ ∧ g < w.heap.size ∧ ∀ i, i < n → ∃ u, w.cell? ⟨g, o + i, none⟩ = some u ∧ InMat w u (F i))
theorem in3_below {w w' : World} {v : Value} {n : Nat} {F : Nat → List (List Int)} (h : In3F w v n F) (hb : Below w.heap.size w w') : In3F w' v n F := by
  obtain ⟨a, c, hv, hm, hp⟩ := h
  refine ⟨a, c, hv, hm, ?_⟩
  rcases hp with h0 | ⟨g, o, ha, hg, hc⟩
  · exact .inl h0
  · refine .inr ⟨g, o, ha, Nat.lt_of_lt_of_le hg hb.size, fun i hi => ?_⟩
    obtain ⟨u, hu, hr⟩ := hc i hi
    exact ⟨u, below_cell hb hg hu, inMat_below hr hb⟩
/-- A list of images of the call's own, read only. -/
def OwnU (w : World) (lo hi : Nat) (v : Value) (n : Nat) (F : Nat → List (List Int)) : Prop :=
  ∃ us : List Value, w.ownsRow lo 22 1 v n us ∧ (∀ k, v.ownBlock = some k → k < hi) ∧ ∀ i, i < n → OwnMat w lo hi (us.getD i undef) (F i)
theorem ownU_below {w w' : World} {lo hi : Nat} {v : Value} {n : Nat} {F : Nat → List (List Int)} (h : OwnU w lo hi v n F) (hb : Below w.heap.size w w') : OwnU w' lo hi v n F := by
  obtain ⟨us, h1, h2, h3⟩ := h
  exact ⟨us, own_below h1 hb, h2, fun i hi => ownMat_below (h3 i hi) hb⟩
theorem ownU_within {w w' : World} {lo hi lo' hi' : Nat} {v : Value} {n : Nat} {F : Nat → List (List Int)} (h : OwnU w lo hi v n F) (hw : Within lo' hi' w w') (ha : hi ≤ lo' ∨ hi' ≤ lo) : OwnU w' lo hi v n F := by
  obtain ⟨us, h1, h2, h3⟩ := h
  exact ⟨us, own_within h1 hw fun k hk => by have h4 := h2 k hk; have h5 := (h1.lt k hk).1; omega, h2, fun i hi => ownMat_within (h3 i hi) hw ha⟩
theorem in3_ownU {w : World} {lo hi : Nat} {v : Value} {n : Nat} {F : Nat → List (List Int)} (h : OwnU w lo hi v n F) : In3F w v n F := by
  obtain ⟨us, h1, -, h3⟩ := h
  by_cases h0 : n = 0
  · subst h0
    obtain ⟨a, c, rfl⟩ := own_slice h1
    exact ⟨a, c, rfl, Nat.zero_le _, .inl rfl⟩
  · obtain ⟨g, cap, rfl, -, hg, hc, hm, -, -⟩ := own_some h1 (by omega)
    exact ⟨_, _, rfl, by omega, .inr ⟨g, 0, rfl, hg, fun i hi => ⟨_, by rw [Nat.zero_add]; exact cell_held h1 hi, inMat_own (h3 i hi)⟩⟩⟩
theorem ownU_imgs {w : World} {lo : Nat} {v : Value} {ms : List (List (List Int))} (h : OwnImgs w lo v ms) : OwnU w lo w.heap.size v ms.length fun i => ms.getD i [] := by
  obtain ⟨us, h1, h2⟩ := h
  refine ⟨us, h1, fun k hk => (h1.lt k hk).2, fun i hi => ?_⟩
  obtain ⟨hi', g1, g2⟩ := h2 i hi
  show OwnMat w lo w.heap.size _ (ms.getD i [])
  rw [List.getD_eq_getElem?_getD (l := ms), List.getElem?_eq_getElem hi, Option.getD_some]
  exact ownMat_mono g2 (Nat.le_refl _) g1
/-- A list of images of the call's own, apart from one another. -/
def Own3F (w : World) (lo hi : Nat) (v : Value) (n : Nat) (F : Nat → List (List Int)) : Prop :=
  ∃ (us : List Value) (a b : Nat → Nat), w.ownsRow lo 22 1 v n us ∧ (∀ k, v.ownBlock = some k → k < hi) ∧ (∀ i, i < n → OwnMat w (a i) (b i) (us.getD i undef) (F i) ∧ lo ≤ a i ∧ b i ≤ hi ∧ ∀ k, v.ownBlock = some k → k < a i ∨ b i ≤ k) ∧ ∀ i j, i < j → j < n → b i ≤ a j
theorem own3_u {w : World} {lo hi : Nat} {v : Value} {n : Nat} {F : Nat → List (List Int)} (h : Own3F w lo hi v n F) : OwnU w lo hi v n F := by
  obtain ⟨us, a, b, h1, h2, h3, -⟩ := h
  exact ⟨us, h1, h2, fun i hi => ownMat_mono (h3 i hi).1 (h3 i hi).2.1 (h3 i hi).2.2.1⟩
theorem in3_own {w : World} {lo hi : Nat} {v : Value} {n : Nat} {F : Nat → List (List Int)} (h : Own3F w lo hi v n F) : In3F w v n F := in3_ownU (own3_u h)
theorem own3_below {w w' : World} {lo hi : Nat} {v : Value} {n : Nat} {F : Nat → List (List Int)} (h : Own3F w lo hi v n F) (hb : Below w.heap.size w w') : Own3F w' lo hi v n F := by
  obtain ⟨us, a, b, h1, h2, h3, h4⟩ := h
  exact ⟨us, a, b, own_below h1 hb, h2, fun i hi => ⟨ownMat_below (h3 i hi).1 hb, (h3 i hi).2⟩, h4⟩
theorem own3_within {w w' : World} {lo hi lo' hi' : Nat} {v : Value} {n : Nat} {F : Nat → List (List Int)} (h : Own3F w lo hi v n F) (hw : Within lo' hi' w w') (ha : hi ≤ lo' ∨ hi' ≤ lo) : Own3F w' lo hi v n F := by
  obtain ⟨us, a, b, h1, h2, h3, h4⟩ := h
  exact ⟨us, a, b, own_within h1 hw fun k hk => by have h4 := h2 k hk; have h5 := (h1.lt k hk).1; omega, h2, fun i hi => ⟨ownMat_within (h3 i hi).1 hw (by have := (h3 i hi).2; omega), (h3 i hi).2⟩, h4⟩
theorem own3_ims {w : World} {lo : Nat} {v : Value} {ms : List (List (List Int))} (h : OwnIms w lo v ms) : Own3F w lo w.heap.size v ms.length fun i => ms.getD i [] := by
  obtain ⟨us, a, b, h1, h2, h3⟩ := h
  refine ⟨us, a, fun i => min (b i) w.heap.size, h1, fun k hk => (h1.lt k hk).2, fun i hi => ?_, fun i j hij hj => Nat.le_trans (Nat.min_le_left _ _) (h3 i j hij hj)⟩
  obtain ⟨⟨vs, g1, g2, g3, g4⟩, g5, g6⟩ := h2 i hi
  refine ⟨?_, g5, Nat.min_le_right _ _, fun k hk => (g6 k hk).imp id (fun h => Nat.le_trans (Nat.min_le_left _ _) h)⟩
  show OwnMat w (a i) _ _ (ms.getD i [])
  rw [List.getD_eq_getElem?_getD (l := ms), List.getElem?_eq_getElem hi, Option.getD_some]
  exact ⟨vs, g1, fun k hk => Nat.lt_min.2 ⟨g2 k hk, (g1.lt k hk).2⟩, fun j hj => ⟨(g3 j hj).1, fun k hk => Nat.lt_min.2 ⟨(g3 j hj).2 k hk, ((g3 j hj).1.lt k hk).2⟩⟩, g4⟩
/-- The cells of the first images. -/
def c3 (F : Nat → List (List Int)) : Nat → Nat
  | 0 => 0
  | i + 1 => c3 F i + cellsM (F i)
theorem c3_le {F : Nat → List (List Int)} {n : Nat} (h : ∀ i, i < n → (F i).length ≤ 5 ∧ cellsM (F i) ≤ 25) : ∀ j, j ≤ n → c3 F j ≤ 25 * j
  | 0, _ => Nat.le_refl _
  | j + 1, hj => by
    have h1 := c3_le h j (by omega)
    have h2 := (h j (by omega)).2
    rw [c3]; omega
set_option maxHeartbeats 400000 in
theorem markIntSS_big (m : List (List Int)) (q lo hi : Nat) (v : Value) (w : World) (hn : m.length + cellsM m ≤ 1000000) (hq : q ≤ 2600000) (hv : OwnMat w lo hi v m) :
    Calls Tryz.prog 15 #[v, .int .i64 q] w fun e w' => e = .returned (.int .i64 (q + cellsM m : Nat)) ∧ OwnMat w' lo hi v (markM m q) ∧ Within lo hi w w' := by
  have hin := inMat_own hv
  obtain ⟨a, c, rfl, hm, hp⟩ := hin
  unfold maxLen at hm
  by_cases h0 : m.length = 0
  · have hr : m = [] := List.eq_nil_of_length_eq_zero h0
    subst hr
    have HV := hide hv
    clear hp hm h0 hn hv
    go_enter Tryz.func15, Tryz.ntmps15
    go_wp2
    go_loop [1, 5] (fun k i => i = .int .i64 0 ∧ k = .int .i64 q) (fun _ _ => 0)
    case atStart => exact ⟨rfl, rfl⟩
    case round =>
      obtain ⟨rfl, rfl⟩ := hrel
      go_wp2
      go_ret
      exact ⟨rfl, HV.out, within_refl _ _ _⟩
  · obtain ⟨g, o, rfl, hg, -⟩ := hp.resolve_left h0
    have ho : o = 0 := by
      obtain ⟨vs, hvs, -⟩ := hv
      rcases hvs.2 with ⟨e, _⟩ | ⟨g', cap, cur, e, _⟩
      · cases e
      · cases e; rfl
    subst ho
    have HV := hide hv
    clear hp h0 hv
    go_enter Tryz.func15, Tryz.ntmps15
    go_wp2
    go_loopw [1, 5] (fun k i w' => ∃ j t : Nat, j ≤ m.length ∧ i = .int .i64 j ∧ k = .int .i64 (q + t : Nat) ∧ cellsM (m.take j) = t ∧ OwnMat w' lo hi (.slice (some ⟨g, 0, none⟩) m.length c) (markTo m q j) ∧ Within lo hi w w') (fun _ i _ => m.length - (intOf i).toNat)
    case atStart => exact ⟨0, 0, Nat.zero_le _, rfl, rfl, by simp [cellsM], HV.out, within_refl _ _ _⟩
    case round =>
      obtain ⟨j, t, hj, rfl, rfl, ht, hown, hw⟩ := hrel
      have HT := hide ht; have HO := hide hown; have HW := hide hw
      have hle : t ≤ 1000000 := by have := cells_take m j; omega
      clear ht hown hw
      by_cases hlt : j < m.length
      · have hl := markTo_len m q j
        obtain ⟨u, hx, -, hu, huh, hset⟩ := ownMat_row HO.out j (by rw [hl]; exact hlt)
        have ha := markTo_at m q j j (by rw [hl]; exact hlt) hlt
        rw [if_neg (by omega)] at ha
        rw [ha] at hu hset
        have HU := hide hu; have HH := hide huh; have HS := hide hset
        have hrow : m[j].length ≤ 2000000 := by have := cells_row m j hlt; omega
        have HC := hide (cells_snoc m j hlt)
        have HD : Hid ((markTo m q j).set j (markR m[j].length (q + t)) = markTo m q (j + 1)) := hide (by
          rw [markTo, HT.out, List.getD_eq_getElem?_getD, List.getElem?_eq_getElem hlt]; rfl)
        clear hl ha hu huh hset
        obtain ⟨n, hnn⟩ : ∃ n, n = m[j].length := ⟨_, rfl⟩
        rw [← hnn] at HU hrow HC HD HS
        clear hnn
        go_wp2_with (go_at_call 16; refine (markIntS_any n (q + t) _ _ _ _ hrow (by omega) HU.out).mono ?_; rintro e w2 ⟨rfl, ho2, hg2⟩; have HO2 := hide ho2; have HG2 := hide hg2; clear ho2 hg2)
        go_roundw
        case rel =>
          have h1 := HS.out _ (markR n (q + t)) HO2.out (markR_len _ _) HG2.out
          rw [HD.out] at h1
          exact ⟨j + 1, t + n, by omega, by go_num, by go_num, by rw [HC.out, HT.out], h1, within_trans HW.out (within_grown HG2.out fun k hk => ⟨(HU.out.lt k hk).1, HH.out k hk⟩)⟩
        case measure => simp [intOf]; omega
      · obtain rfl : j = m.length := by omega
        have HA := hide (cells_all m m.length (Nat.le_refl _))
        go_wp2
        go_ret
        exact ⟨ret_int (by rw [← HA.out, HT.out]), HO.out, HW.out⟩

set_option maxHeartbeats 400000 in
theorem heldIntSS_big (m : List (List Int)) (q : Nat) (v : Value) (w : World) (hn : m.length + cellsM m ≤ 1000000) (hq : q ≤ 2600000) (hv : InMat w v (markM m q)) :
    Calls Tryz.prog 17 #[v, .int .i64 q] w fun e w' => e = .returned (.int .i64 (q + cellsM m : Nat)) ∧ Below w.heap.size w w' := by
  have hl := markM_len m q
  obtain ⟨a, c, rfl, -, hp⟩ := hv
  by_cases h0 : m.length = 0
  · have hr : m = [] := List.eq_nil_of_length_eq_zero h0
    subst hr
    clear hp h0 hn hl
    go_enter Tryz.func17, Tryz.ntmps17
    go_wp2
    go_loop [1, 5] (fun k i => i = .int .i64 0 ∧ k = .int .i64 q) (fun _ _ => 0)
    case atStart => exact ⟨rfl, rfl⟩
    case round =>
      obtain ⟨rfl, rfl⟩ := hrel
      go_wp2
      go_ret
      exact ⟨rfl, Below.refl _ _⟩
  · obtain ⟨g, o, rfl, hg, hcell⟩ := hp.resolve_left (by rw [hl]; exact h0)
    have HC := hide hcell; have HL := hide hl
    rw [hl]
    clear hp hcell h0 hl
    go_enter Tryz.func17, Tryz.ntmps17
    go_wp2
    go_loopw [1, 5] (fun k i w' => ∃ j t : Nat, j ≤ m.length ∧ i = .int .i64 j ∧ k = .int .i64 (q + t : Nat) ∧ cellsM (m.take j) = t ∧ Below w.heap.size w w') (fun _ i _ => m.length - (intOf i).toNat)
    case atStart => exact ⟨0, 0, Nat.zero_le _, rfl, rfl, by simp [cellsM], Below.refl _ _⟩
    case round =>
      obtain ⟨j, t, hj, rfl, rfl, ht, hb⟩ := hrel
      have HT := hide ht; have HB := hide hb
      have hle : t ≤ 1000000 := by have := cells_take m j; omega
      clear ht hb
      by_cases hlt : j < m.length
      · obtain ⟨u, hx, hr⟩ := HC.out j (by rw [HL.out]; exact hlt)
        have hx : wr.cell? ⟨g, o + j, none⟩ = some u := below_cell HB.out hg hx
        have hr := inRow_below hr HB.out
        rw [markM_at m q j _ hlt, HT.out] at hr
        have HR := hide hr
        have hrow : m[j].length ≤ 2000000 := by have := cells_row m j hlt; omega
        have HS := hide (cells_snoc m j hlt)
        clear hr
        obtain ⟨n, hnn⟩ : ∃ n, n = m[j].length := ⟨_, rfl⟩
        rw [← hnn] at HR hrow HS
        clear hnn
        go_wp2_with (go_at_call 33; refine (heldIntS_any n (q + t) _ _ hrow (by omega) HR.out).mono ?_; rintro e w2 ⟨rfl, hb2⟩; have HB2 := hide hb2; clear hb2)
        go_roundw
        case rel => exact ⟨j + 1, t + n, by omega, by go_num, by go_num, by rw [HS.out, HT.out], HB.out.trans (HB2.out.mono HB.out.size)⟩
        case measure => simp [intOf]; omega
      · obtain rfl : j = m.length := by omega
        have HA := hide (cells_all m m.length (Nat.le_refl _))
        go_wp2
        go_ret
        exact ⟨ret_int (by rw [← HA.out, HT.out]), HB.out⟩
end Go.Proofs.YtbogeghoekmbhaaGreat
/-
  All images that meet a mask: MaskedImage and MaskedCount of the model.
-/
namespace Go.Proofs.YtbogeghoekmbhaaGreat
open Go.RowKit

theorem allIm_ok {r c : List Int} {m : List (List Int)} (hm : m ∈ allIm r c) : okB m = true := by
  unfold allIm at hm
  split at hm
  · rename_i he
    obtain ⟨hr, hc, -⟩ := sumsOk_yes (existsOf_sums he)
    obtain ⟨h1, h2, h3⟩ := all_sound r c hr.2 hc (img_of_exists he) m hm
    have hw : widthM m = c.length := by rw [width_at m (by omega)]; exact h2 _ (List.getElem_mem _)
    refine okB_yes (by omega) (by omega) fun y hy => ?_
    have hl := h2 _ (List.getElem_mem hy)
    refine rowOk_yes (by rw [hw, hl]) fun x hx => ?_
    have := h3.cell y x (by omega) (by omega)
    rw [show (m.getD y []).getD x 0 = m[y][x] by simp [List.getD_eq_getElem?_getD, hy, hx]] at this
    rcases this with e | e <;> rw [e] <;> rfl
  · cases hm
theorem filter_hit {α : Type} (p : α → Bool) (d : α) {l : List α} {t : Nat} (ht : t < l.length) (h : ∀ i, (hi : i < l.length) → i < t → p l[i] = false) (hp : p l[t] = true) : (l.filter p).headD d = l[t] ∧ (!(l.filter p).isEmpty) = true := by
  have e : l.filter p = l[t] :: (l.drop (t + 1)).filter p := by
    conv => lhs; rw [← List.take_append_drop t l, List.filter_append, List.drop_eq_getElem_cons ht, List.filter_cons, if_pos hp]
    rw [List.filter_eq_nil_iff.2, List.nil_append]
    intro x hx
    obtain ⟨i, hi, rfl⟩ := List.getElem_of_mem hx
    rw [List.length_take] at hi
    rw [List.getElem_take, h i (by omega) (by omega)]; simp
  rw [e]; exact ⟨rfl, rfl⟩
theorem filter_miss {α : Type} (p : α → Bool) (d : α) {l : List α} (h : ∀ i, (hi : i < l.length) → p l[i] = false) : (l.filter p).headD d = d ∧ (!(l.filter p).isEmpty) = false := by
  rw [List.filter_eq_nil_iff.2]
  · exact ⟨rfl, rfl⟩
  · intro x hx
    obtain ⟨i, hi, rfl⟩ := List.getElem_of_mem hx
    rw [h i hi]; simp
theorem filter_count {α : Type} (p : α → Bool) {l : List α} {t : Nat} (ht : t < l.length) : ((l.take (t + 1)).filter p).length = ((l.take t).filter p).length + if p l[t] then 1 else 0 := by
  rw [List.take_succ_eq_append_getElem ht, List.filter_append, List.length_append]
  cases h : p l[t] <;> simp [h]

set_option maxRecDepth 100000 in
set_option maxHeartbeats 1000000 in
theorem specMaskedImage_any (vk va vb : Value) (k : List (List Int)) (r c : List Int) (w : World) (hk : InMat w vk k) (ha : RowC w va r) (hb : RowC w vb c) :
    Calls Tryz.prog 11 #[vk, va, vb] w (MatRes2 (maskedIm k r c) (maskedImB k r c) w) := by
  have HMO := hide (specMaskOk_any vk va vb k r c w hk ha.1 hb.1)
  cases h : maskB k r c with
  | false =>
    have HANS := hide (show maskedIm k r c = [] by unfold maskedIm; rw [h]; rfl)
    have HANB := hide (show maskedImB k r c = false by unfold maskedImB; rw [h]; rfl)
    rw [HANS.out, HANB.out]
    rw [h] at HMO
    obtain ⟨ak, ck, rfl, -, -⟩ := hk
    obtain ⟨-, a1, c1, rfl, -, -⟩ := ha
    obtain ⟨-, a2, c2, rfl, -, -⟩ := hb
    generalize r.length = n1 at *
    generalize c.length = n2 at *
    generalize k.length = n3 at *
    clear h HANS HANB
    go_enter Tryz.func11, Tryz.ntmps11
    go_wp2_with (go_at_call 28; refine HMO.out.mono ?_; rintro e w1 ⟨rfl, b1⟩; have B1 := hide b1; clear b1)
    go_ret2
    exact ⟨_, rfl, ownMat_nil _ _ _, B1.out⟩
  | true =>
    have HANS := hide (show maskedIm k r c = ((allIm r c).filter fun m => meetM m k).headD [] by unfold maskedIm; rw [h]; rfl)
    have HANB := hide (show maskedImB k r c = !((allIm r c).filter fun m => meetM m k).isEmpty by unfold maskedImB; rw [h]; rfl)
    rw [HANS.out, HANB.out]
    rw [h] at HMO
    have HALL := hide fun w' (hw : Below w.heap.size w w') => specAllIm_any va vb r c w' (rowC_below ha hw) (rowC_below hb hw)
    have HOK := hide fun m (hm : m ∈ allIm r c) => allIm_ok hm
    have HK := hide hk
    have HLEN := hide (allIm_len r c)
    obtain ⟨L, hL⟩ : ∃ L, L = allIm r c := ⟨_, rfl⟩
    rw [← hL] at HALL HOK HLEN ⊢
    obtain ⟨sb, hsb⟩ : ∃ sb, sb = sumsOk r c := ⟨_, rfl⟩
    rw [← hsb] at HALL
    obtain ⟨n, hn⟩ : ∃ n, n = L.length := ⟨_, rfl⟩
    have HN := hide hn
    rw [← hn] at HLEN
    have hn6 := HLEN.out
    have HHIT := hide fun (t : Nat) (ht : t < L.length) => filter_hit (fun m => meetM m k) ([] : List (List Int)) ht
    have HMISS := hide (filter_miss (fun m => meetM m k) ([] : List (List Int)) (l := L))
    obtain ⟨M0, hM0⟩ : ∃ M0, M0 = (L.filter fun m => meetM m k).headD [] := ⟨_, rfl⟩
    obtain ⟨bb, hbb⟩ : ∃ bb, bb = !(L.filter fun m => meetM m k).isEmpty := ⟨_, rfl⟩
    rw [← hM0, ← hbb] at HMISS
    simp only [← hM0, ← hbb] at HHIT
    rw [← hM0, ← hbb]
    obtain ⟨ak, ck, rfl, -, -⟩ := hk
    obtain ⟨-, a1, c1, rfl, -, -⟩ := ha
    obtain ⟨-, a2, c2, rfl, -, -⟩ := hb
    generalize r.length = n1 at *
    generalize c.length = n2 at *
    obtain ⟨n3, hn3⟩ : ∃ n, n = k.length := ⟨_, rfl⟩
    rw [← hn3] at HMO HK
    rw [← hn3]
    clear h HANS HANB hL hsb hn hM0 hbb hn3
    go_enter Tryz.func11, Tryz.ntmps11
    go_wp2_with (go_at_call 28; refine HMO.out.mono ?_; rintro e w1 ⟨rfl, b1⟩; have B1 := hide b1; clear b1)
    refine (HALL.out _ B1.out).mono ?_
    rintro e w2 ⟨v, rfl, hims, hb2⟩
    have hu := ownU_imgs hims
    rw [← HN.out] at hu
    obtain ⟨us, hv, hvh, hmm⟩ := id hu
    obtain ⟨av, cv, rfl⟩ := own_slice hv
    have B2 := hide (B1.out.trans (hb2.mono B1.out.size))
    have HLO := hide B1.out.size
    have HU := hide hu
    have HK2 := hide (inMat_below HK.out B2.out)
    clear hims hu hv hvh hmm hb2
    go_wp2
    go_loop [25] (fun i => ∃ t : Nat, t ≤ n ∧ i = .int .i64 t ∧ ∀ j, (hj : j < L.length) → j < t → meetM L[j] k = false) (fun i => n - (intOf i).toNat)
    case atStart => exact ⟨0, Nat.zero_le _, rfl, fun j _ hj => absurd hj (Nat.not_lt_zero _)⟩
    case round =>
      obtain ⟨t, ht, rfl, hall⟩ := hrel
      have HA := hide hall
      clear hall
      by_cases hlt : t < n
      · have hLt : t < L.length := by rw [← HN.out]; exact hlt
        obtain ⟨us, hv, hvh, hmm⟩ := id HU.out
        obtain ⟨g, cap, hsl, -, -, -, -, -, -⟩ := own_some hv (by omega)
        obtain ⟨rfl, rfl⟩ : av = some ⟨g, 0, none⟩ ∧ cv = cap := by cases hsl; exact ⟨rfl, rfl⟩
        have hx := cell_held hv hlt
        have hm0 : OwnMat w2 w1.heap.size w2.heap.size (us.getD t undef) (L.getD t []) := hmm t hlt
        rw [show L.getD t [] = L[t] by rw [List.getD_eq_getElem?_getD, List.getElem?_eq_getElem hLt, Option.getD_some]] at hm0
        obtain ⟨m, hm⟩ : ∃ m, m = L[t] := ⟨_, rfl⟩
        have hmo : okB m = true := HOK.out m (by rw [hm]; exact List.getElem_mem hLt)
        have HM := hide hm
        rw [← hm] at hm0
        have HM0 := hide hm0
        obtain ⟨ut, hut⟩ : ∃ ut, ut = us.getD t undef := ⟨_, rfl⟩
        rw [← hut] at hx HM0
        have HCALL := hide (specMeets_any ut (.slice ak n3 ck) m k w2 (inMat_own HM0.out) HK2.out)
        obtain ⟨am, nm, cm, hsm⟩ : ∃ a q cp, ut = .slice a q cp := by
          obtain ⟨vs, hv, -⟩ := HM0.out
          obtain ⟨a, cp, e⟩ := own_slice hv
          exact ⟨a, _, cp, e⟩
        subst hsm
        obtain ⟨q, hq⟩ : ∃ q, q = meetsB m k := ⟨_, rfl⟩
        have HQ : Hid (q = meetM m k) := hide (by rw [hq, meetsB, hmo, Bool.true_and])
        rw [← hq] at HCALL
        clear hv hvh hmm hm0 hm hmo hut hq hsl
        cases q with
        | true =>
          go_wp2_with (go_at_call 30; refine HCALL.out.mono ?_; rintro e w9 ⟨rfl, rfl⟩)
          go_ret2
          obtain ⟨e1, e2⟩ := HHIT.out t hLt HA.out (by rw [← HM.out]; exact HQ.out.symm)
          rw [e1, e2, ← HM.out]
          exact ⟨_, rfl, ownMat_mono HM0.out HLO.out (Nat.le_refl _), B2.out⟩
        | false =>
          go_wp2_with (go_at_call 30; refine HCALL.out.mono ?_; rintro e w9 ⟨rfl, rfl⟩)
          go_round
          case rel => exact ⟨t + 1, by omega, by go_num, fun j hj hj2 => by
            by_cases e : j = t
            · subst e; rw [← HM.out]; exact HQ.out.symm
            · exact HA.out j hj (by omega)⟩
          case measure => simp [intOf]; omega
      · obtain ⟨rfl, rfl⟩ := HMISS.out fun i hi => HA.out i hi (by have := HN.out; omega)
        go_wp2
        go_ret2
        exact ⟨_, rfl, ownMat_nil _ _ _, B2.out⟩
set_option maxRecDepth 100000 in
set_option maxHeartbeats 1000000 in
theorem specMaskedCount_any (vk va vb : Value) (k : List (List Int)) (r c : List Int) (w : World) (hk : InMat w vk k) (ha : RowC w va r) (hb : RowC w vb c) :
    Calls Tryz.prog 18 #[vk, va, vb] w fun e w' => e = .returned (.int .i64 (maskedCnt k r c)) ∧ Below w.heap.size w w' := by
  have HMO := hide (specMaskOk_any vk va vb k r c w hk ha.1 hb.1)
  cases h : maskB k r c with
  | false =>
    have HANS := hide (show maskedCnt k r c = -1 by unfold maskedCnt; rw [h]; rfl)
    rw [HANS.out]
    rw [h] at HMO
    obtain ⟨ak, ck, rfl, -, -⟩ := hk
    obtain ⟨-, a1, c1, rfl, -, -⟩ := ha
    obtain ⟨-, a2, c2, rfl, -, -⟩ := hb
    generalize r.length = n1 at *
    generalize c.length = n2 at *
    generalize k.length = n3 at *
    clear h HANS
    go_enter Tryz.func18, Tryz.ntmps18
    go_wp2_with (go_at_call 28; refine HMO.out.mono ?_; rintro e w1 ⟨rfl, b1⟩; have B1 := hide b1; clear b1)
    go_ret
    exact ⟨rfl, B1.out⟩
  | true =>
    have HANS := hide (show maskedCnt k r c = (((allIm r c).filter fun m => meetM m k).length : Int) by unfold maskedCnt; rw [h]; rfl)
    rw [HANS.out]
    rw [h] at HMO
    have HALL := hide fun w' (hw : Below w.heap.size w w') => specAllIm_any va vb r c w' (rowC_below ha hw) (rowC_below hb hw)
    have HOK := hide fun m (hm : m ∈ allIm r c) => allIm_ok hm
    have HK := hide hk
    have HLEN := hide (allIm_len r c)
    obtain ⟨L, hL⟩ : ∃ L, L = allIm r c := ⟨_, rfl⟩
    rw [← hL] at HALL HOK HLEN ⊢
    obtain ⟨sb, hsb⟩ : ∃ sb, sb = sumsOk r c := ⟨_, rfl⟩
    rw [← hsb] at HALL
    obtain ⟨n, hn⟩ : ∃ n, n = L.length := ⟨_, rfl⟩
    have HN := hide hn
    rw [← hn] at HLEN
    have hn6 := HLEN.out
    have HCNT := hide fun (t : Nat) (ht : t < L.length) => filter_count (fun m => meetM m k) ht
    have HCN := hide fun (t : Nat) => show ((L.take t).filter fun m => meetM m k).length ≤ t from Nat.le_trans (List.length_filter_le _ _) (by rw [List.length_take]; omega)
    obtain ⟨cn, hcn⟩ : ∃ cn : Nat → Nat, cn = fun t => ((L.take t).filter fun m => meetM m k).length := ⟨_, rfl⟩
    have HCE := hide (show (L.filter fun m => meetM m k).length = cn n by
      rw [hcn, hn]
      show _ = ((L.take L.length).filter _).length
      rw [List.take_length])
    have HC0 := hide (show cn 0 = 0 by rw [hcn]; rfl)
    have HCS := hide (show ∀ t, (ht : t < L.length) → cn (t + 1) = cn t + if meetM L[t] k then 1 else 0 by rw [hcn]; exact HCNT.out)
    have HCL := hide (show ∀ t, cn t ≤ t by rw [hcn]; exact HCN.out)
    rw [HCE.out]
    obtain ⟨ak, ck, rfl, -, -⟩ := hk
    obtain ⟨-, a1, c1, rfl, -, -⟩ := ha
    obtain ⟨-, a2, c2, rfl, -, -⟩ := hb
    generalize r.length = n1 at *
    generalize c.length = n2 at *
    obtain ⟨n3, hn3⟩ : ∃ n, n = k.length := ⟨_, rfl⟩
    rw [← hn3] at HMO HK
    rw [← hn3]
    clear h HANS hL hsb hn hn3 hcn HCNT HCN
    go_enter Tryz.func18, Tryz.ntmps18
    go_wp2_with (go_at_call 28; refine HMO.out.mono ?_; rintro e w1 ⟨rfl, b1⟩; have B1 := hide b1; clear b1)
    refine (HALL.out _ B1.out).mono ?_
    rintro e w2 ⟨v, rfl, hims, hb2⟩
    have hu := ownU_imgs hims
    rw [← HN.out] at hu
    obtain ⟨us, hv, hvh, hmm⟩ := id hu
    obtain ⟨av, cv, rfl⟩ := own_slice hv
    have B2 := hide (B1.out.trans (hb2.mono B1.out.size))
    have HU := hide hu
    have HK2 := hide (inMat_below HK.out B2.out)
    clear hims hu hv hvh hmm hb2
    go_wp2
    go_loop [7, 25] (fun s i => ∃ t : Nat, t ≤ n ∧ i = .int .i64 t ∧ s = .int .i64 (cn t)) (fun _ i => n - (intOf i).toNat)
    case atStart => exact ⟨0, Nat.zero_le _, rfl, by rw [HC0.out]; rfl⟩
    case round =>
      obtain ⟨t, ht, rfl, rfl⟩ := hrel
      have hct := HCL.out t
      by_cases hlt : t < n
      · have hLt : t < L.length := by rw [← HN.out]; exact hlt
        obtain ⟨us, hv, hvh, hmm⟩ := id HU.out
        obtain ⟨g, cap, hsl, -, -, -, -, -, -⟩ := own_some hv (by omega)
        obtain ⟨rfl, rfl⟩ : av = some ⟨g, 0, none⟩ ∧ cv = cap := by cases hsl; exact ⟨rfl, rfl⟩
        have hx := cell_held hv hlt
        have hm0 : OwnMat w2 w1.heap.size w2.heap.size (us.getD t undef) (L.getD t []) := hmm t hlt
        rw [show L.getD t [] = L[t] by rw [List.getD_eq_getElem?_getD, List.getElem?_eq_getElem hLt, Option.getD_some]] at hm0
        have HST := hide (HCS.out t hLt)
        obtain ⟨m, hm⟩ : ∃ m, m = L[t] := ⟨_, rfl⟩
        have hmo : okB m = true := HOK.out m (by rw [hm]; exact List.getElem_mem hLt)
        rw [← hm] at hm0 HST
        have HM0 := hide hm0
        obtain ⟨ut, hut⟩ : ∃ ut, ut = us.getD t undef := ⟨_, rfl⟩
        rw [← hut] at hx HM0
        have HCALL := hide (specMeets_any ut (.slice ak n3 ck) m k w2 (inMat_own HM0.out) HK2.out)
        obtain ⟨am, nm, cm, hsm⟩ : ∃ a q cp, ut = .slice a q cp := by
          obtain ⟨vs, hv, -⟩ := HM0.out
          obtain ⟨a, cp, e⟩ := own_slice hv
          exact ⟨a, _, cp, e⟩
        subst hsm
        have hqm : meetsB m k = meetM m k := by rw [meetsB, hmo, Bool.true_and]
        rw [hqm] at HCALL
        obtain ⟨q, hq⟩ : ∃ q, q = meetM m k := ⟨_, rfl⟩
        rw [← hq] at HCALL HST
        obtain ⟨x, hxx⟩ : ∃ x, x = cn t := ⟨_, rfl⟩
        rw [← hxx] at hct HST ⊢
        clear hv hvh hmm hm0 hm hmo hut hq hsl hqm hxx
        cases q with
        | true =>
          go_wp2_with (go_at_call 30; refine HCALL.out.mono ?_; rintro e w9 ⟨rfl, rfl⟩)
          go_round
          case rel => exact ⟨t + 1, by omega, by go_num, by rw [HST.out, if_pos trivial]; go_num⟩
          case measure => simp [intOf]; omega
        | false =>
          go_wp2_with (go_at_call 30; refine HCALL.out.mono ?_; rintro e w9 ⟨rfl, rfl⟩)
          go_round
          case rel => exact ⟨t + 1, by omega, by go_num, by rw [HST.out, if_neg (by simp)]; rfl⟩
          case measure => simp [intOf]; omega
      · obtain rfl : t = n := by omega
        go_wp2
        go_ret
        exact ⟨rfl, B2.out⟩
end Go.Proofs.YtbogeghoekmbhaaGreat
/-
  All images that meet a mask: the program's iterator, MaskedImage and MaskedCount.
-/
namespace Go.Proofs.YtbogeghoekmbhaaGreat
open Go.RowKit Go.Shelf
attribute [local go_sem] Oper.semAt_some

theorem meetsPred_any (u vk : Value) (row k : List Int) (q : Nat) (w : World) (hu : InRow w u row) (hk : InRow w vk k) (hq : w.cell? ⟨q, 0, none⟩ = some vk) :
    Calls Tryz.prog 60 #[u, .pointer (some ⟨q, 0, none⟩)] w fun e w' => e = .returned (.bool (!meetR row k)) ∧ Below w.heap.size w w' := by
  have HC := hide (rowMeets_any u vk row k w hu hk)
  obtain ⟨b, hb⟩ : ∃ b, b = meetR row k := ⟨_, rfl⟩
  rw [← hb] at HC ⊢
  obtain ⟨au, cu, rfl, -, -⟩ := hu
  obtain ⟨ac, cc, rfl, -, -⟩ := hk
  generalize k.length = K at *
  generalize row.length = R at *
  clear hb
  go_enter Tryz.func60, Tryz.ntmps60
  go_wp2_with (go_at_call 61; refine HC.out.mono ?_; rintro e w' ⟨rfl, rfl⟩)
  go_ret
  exact ⟨rfl, Below.refl _ _⟩
set_option maxHeartbeats 1000000 in
theorem chF_mask (k : List (List Int)) (vk : Value) (q n : Nat) (W : World) (hk : InMat W vk k) (hq : W.cell? ⟨q, 0, none⟩ = some vk) (hn : n ≤ k.length) (hk5 : k.length ≤ 5) : ChF 57 #[.pointer (some ⟨q, 0, none⟩)] (maskP k) n W := by
  intro vr vc a r c W' hb hr hc h1 hr5 hC1 hM
  have hl : (a :: r).length = r.length + 1 := rfl
  have hk' := inMat_below hk hb
  have hq' := below_cell hb (World.block_lt_of_cell? W _ hq) hq
  obtain ⟨ak, ck, rfl, hmk, hpk⟩ := hk'
  obtain ⟨gk, ok, rfl, hgk, hck⟩ := hpk.resolve_left (by omega)
  have hyk : k.length - (r.length + 1) < k.length := by omega
  obtain ⟨y, hy⟩ : ∃ y, y = k.length - (r.length + 1) := ⟨_, rfl⟩
  rw [← hy] at hyk
  have hsub : (k.length : Int) - ((a :: r).length : Int) = (y : Int) := by rw [hl]; omega
  obtain ⟨um, hx, hrm⟩ := hck y hyk
  obtain ⟨mk, hmk'⟩ : ∃ mk, mk = k[y] := ⟨_, rfl⟩
  have HMK := hide (show (fun row => !(!meetR row mk)) = maskP k r by
    funext row
    rw [Bool.not_not, maskP, ← hy, List.getD_eq_getElem?_getD, List.getElem?_eq_getElem hyk, Option.getD_some, hmk'])
  rw [← hmk'] at hrm
  obtain ⟨am, cm, rfl, hmm, hpm⟩ := hrm
  have HRM : Hid (InRow W' (.slice am mk.length cm) mk) := hide ⟨am, cm, rfl, hmm, hpm⟩
  have HFR := hide fun w' (hw : Below W'.heap.size W' w') => firstRows_any vr vc a r c w' (inRow_below hr hw) (inRow_below hc hw) hr5 hC1 hM
  obtain ⟨L, hL⟩ : ∃ L, L = firstRows a r c := ⟨_, rfl⟩
  rw [← hL] at HFR ⊢
  obtain ⟨ar, cr, rfl, hmr, -⟩ := hr
  obtain ⟨ac, cc, rfl, -, -⟩ := hc
  obtain ⟨K, hK⟩ : ∃ K, K = k.length := ⟨_, rfl⟩
  obtain ⟨N, hN⟩ : ∃ N, N = (a :: r).length := ⟨_, rfl⟩
  obtain ⟨C, hC⟩ : ∃ C, C = c.length := ⟨_, rfl⟩
  obtain ⟨M, hMM⟩ : ∃ M, M = mk.length := ⟨_, rfl⟩
  rw [← hK] at hq' hyk hsub hk5
  rw [← hN] at HFR hsub hr5 ⊢
  rw [← hC] at HFR hC1 ⊢
  rw [← hMM] at hx HRM
  have hyK : (y : Int) < (K : Int) := by omega
  clear hb hpk hck hpm hmk hL hK hN hC hMM hM hy hmk' hl h1 hmm hq hk
  go_enter Tryz.func57, Tryz.ntmps57
  go_wp2_with fail
  obtain ⟨W2, hW2⟩ : ∃ W2, W2 = W'.alloc (.cells #[.slice am M cm] 28) := ⟨_, rfl⟩
  rw [← hW2]
  have B2 := hide (show Below W'.heap.size W' W2 by rw [hW2]; exact (Below.refl _ W').alloc (Nat.le_refl _) _)
  have HQ2 := hide (show W2.cell? ⟨W'.heap.size, 0, none⟩ = some (.slice am M cm) by rw [hW2]; simp [World.cell?_alloc_new])
  have HS2 := hide (show W2.heap.size = W'.heap.size + 1 by rw [hW2]; simp)
  have HR2 := hide (inRow_below HRM.out B2.out)
  clear hW2
  refine (HFR.out _ B2.out).mono ?_
  rintro e W3 ⟨u, rfl, hm3, hb3⟩
  have HDEL : Hid (Calls Tryz.prog 58 #[u, .func (.func 60) #[] #[.pointer (some ⟨W'.heap.size, 0, none⟩)]] W3 (RowsRes W2.heap.size (L.filter (maskP k r)) W3)) := hide (by
    rw [← HMK.out]
    exact delRows_any u L 60 #[.pointer (some ⟨W'.heap.size, 0, none⟩)] (fun _ => True) (fun row => !meetR row mk) W2.heap.size W2 W3 (enters_of Tryz.func60 (by kernel_rfl) rfl) hm3 hb3.size (Nat.le_refl _) hb3 (fun _ _ => trivial)
      (fun row v w _ hw hr => meetsPred_any v (.slice am M cm) row mk W'.heap.size w hr (inRow_below HR2.out hw) (below_cell hw (by have := HS2.out; simp; omega) HQ2.out)))
  generalize L.filter (maskP k r) = X at *
  have B3 := hide hb3
  obtain ⟨vs, hv, -⟩ := hm3
  obtain ⟨au, cu, rfl⟩ := own_slice hv
  clear hv hb3
  go_wp2_with fail
  refine HDEL.out.mono ?_
  rintro e W4 ⟨v, rfl, hm4, hb4⟩
  have HM4 := hide (And.intro hm4 hb4)
  obtain ⟨vs4, hv4, -⟩ := hm4
  obtain ⟨av, cv, rfl⟩ := own_slice hv4
  clear hv4 hb4
  go_wp2
  go_ret
  have h2 := B2.out.size
  exact ⟨_, rfl, matT_base HM4.out.1 h2, B2.out.trans ((B3.out.trans HM4.out.2).mono h2)⟩
theorem imagesMeeting_any (vk va vb : Value) (k : List (List Int)) (r c : List Int) (w : World) (hk : InMat w vk k) (ha : RowC w va r) (hb : InRow w vb c) :
    Calls Tryz.prog 32 #[vk, va, vb] w fun e w' => e = .returned (.func (.func 85) #[] #[.pointer (some ⟨w.heap.size + 1, 0, none⟩), .pointer (some ⟨w.heap.size + 3, 0, none⟩), .pointer (some ⟨w.heap.size + 2, 0, none⟩)]) ∧
      w'.cell? ⟨w.heap.size, 0, none⟩ = some vk ∧ w'.cell? ⟨w.heap.size + 1, 0, none⟩ = some va ∧ w'.cell? ⟨w.heap.size + 2, 0, none⟩ = some vb ∧ w'.cell? ⟨w.heap.size + 3, 0, none⟩ = some (.func (.func 57) #[] #[.pointer (some ⟨w.heap.size, 0, none⟩)]) ∧ Below w.heap.size w w' ∧ w'.heap.size = w.heap.size + 4 := by
  have hbx := (Below.refl w.heap.size w).alloc (Nat.le_refl _) (.cells #[vk] 22)
  have HBX := hide hbx
  have HQ := hide (show (w.alloc (.cells #[vk] 22)).cell? ⟨w.heap.size, 0, none⟩ = some vk by simp [World.cell?_alloc_new])
  have HS := hide (show (w.alloc (.cells #[vk] 22)).heap.size = w.heap.size + 1 by simp)
  have HB := hide (imagesBy_any va vb 57 #[.pointer (some ⟨w.heap.size, 0, none⟩)] r c _ (rowC_below ha hbx) (inRow_below hb hbx))
  obtain ⟨ak, ck, rfl, -, -⟩ := hk
  obtain ⟨-, a1, c1, rfl, -, -⟩ := ha
  obtain ⟨a2, c2, rfl, -, -⟩ := hb
  generalize r.length = n1 at *
  generalize c.length = n2 at *
  generalize k.length = n3 at *
  clear hbx
  go_enter Tryz.func32, Tryz.ntmps32
  go_wp2_with fail
  generalize w.alloc (.cells #[.slice ak n3 ck] 22) = w1 at *
  refine HB.out.mono ?_
  rw [HS.out]
  rintro e w2 ⟨rfl, h1, h2, h3, h4, h5⟩
  have H := hide (And.intro h1 (And.intro h2 (And.intro h3 (And.intro h4 h5))))
  clear h1 h2 h3 h4 h5
  go_wp2
  go_ret
  have hb := H.out.2.2.2.1
  refine ⟨rfl, (hb.cell (p := ⟨w.heap.size, 0, none⟩) (Nat.lt_succ_self _)).trans HQ.out, H.out.1, H.out.2.1, H.out.2.2.1, HBX.out.trans (hb.mono (Nat.le_succ _)), H.out.2.2.2.2⟩
theorem below_of_itStep {w0 w W W' : World} {A A' : Nat → Prop} (hw : Below w0.heap.size w0 w) (hb : Below w.heap.size w W) (hA : ∀ k, A k → w.heap.size ≤ k) (h : ItStep A A' W W') : Below w0.heap.size w0 W' :=
  hw.trans ((below_itStep hb hA h).mono hw.size)
/-- The iterator over the images that meet a mask. -/
theorem mask_start {k : List (List Int)} {r c : List Int} {vk va vb : Value} {w W : World} {b0 b1 b2 b3 : Nat} {A : Nat → Prop} (hk : InMat w vk k) (ha : RowC w va r) (hb : InRow w vb c) (hs : maskB k r c = true) (hW : Below w.heap.size w W) (hA : ∀ k, A k → w.heap.size ≤ k ∧ k < W.heap.size)
    (h0 : W.cell? ⟨b0, 0, none⟩ = some vk) (h1 : W.cell? ⟨b1, 0, none⟩ = some va) (h2 : W.cell? ⟨b2, 0, none⟩ = some vb) (h3 : W.cell? ⟨b3, 0, none⟩ = some (.func (.func 57) #[] #[.pointer (some ⟨b0, 0, none⟩)])) (hb0 : ¬ A b0) (hb1 : ¬ A b1) (hb2 : ¬ A b2) (hb3 : ¬ A b3) :
    EachC Tryz.prog 85 #[.pointer (some ⟨b1, 0, none⟩), .pointer (some ⟨b3, 0, none⟩), .pointer (some ⟨b2, 0, none⟩)] (maskedL k r c) ValM W A := by
  have hm : sumsOk r c = true ∧ k.length = r.length := by
    unfold maskB at hs
    simp only [Bool.and_eq_true, beq_iff_eq] at hs
    exact hs.1
  obtain ⟨hr5, hc5, -⟩ := sumsOk_yes hm.1
  rw [← maskedL_im hs]
  exact iter_any 57 (enters_of Tryz.func57 (by kernel_rfl) rfl) #[.pointer (some ⟨b0, 0, none⟩)] _ r c b1 b2 b3 va vb A W (safe_and (safe_cell h1 hb1) (safe_and (safe_cell h2 hb2) (safe_and (safe_cell h3 hb3) (safe_and (fun A' W' h => rowC_below ha (below_itStep hW (fun k hk => (hA k hk).1) h)) (safe_and (fun A' W' h => inRow_below hb (below_itStep hW (fun k hk => (hA k hk).1) h))
    (fun A' W' h => chF_mask k vk b0 _ W' (inMat_below hk (below_itStep hW (fun k hk => (hA k hk).1) h)) (safe_cell h0 hb0 A' W' h) (by omega) (by omega))))))) (fun k hk => (hA k hk).2) hr5.2 hc5 (mid_sums hm.1)
theorem maskedL_len (k : List (List Int)) (r c : List Int) : (maskedL k r c).length ≤ 100000 := Nat.le_trans (List.length_filter_le _ _) (allIm_len r c)
set_option maxHeartbeats 1000000 in
theorem implMaskedCount_any (vk va vb : Value) (k : List (List Int)) (r c : List Int) (w : World) (hk : InMat w vk k) (ha : RowC w va r) (hb : InRow w vb c) :
    Calls Tryz.prog 19 #[vk, va, vb] w fun e w' => e = .returned (.int .i64 (maskedCnt k r c)) ∧ Below w.heap.size w w' := by
  have HMO := hide (implMaskOk_any vk va vb k r c w hk ha.1 hb)
  cases h : maskB k r c with
  | false =>
    have HC := hide (show maskedCnt k r c = -1 by unfold maskedCnt; rw [h]; rfl)
    rw [HC.out]
    rw [h] at HMO
    obtain ⟨ak, ck, rfl, -, -⟩ := hk
    obtain ⟨-, a1, c1, rfl, -, -⟩ := ha
    obtain ⟨a2, c2, rfl, -, -⟩ := hb
    generalize r.length = n1 at *
    generalize c.length = n2 at *
    generalize k.length = n3 at *
    clear h
    go_enter Tryz.func19, Tryz.ntmps19
    go_wp2_with (go_at_call 31; refine HMO.out.mono ?_; rintro e w1 ⟨rfl, b1⟩; have B1 := hide b1; clear b1)
    go_ret
    exact ⟨rfl, B1.out⟩
  | true =>
    have HC := hide (show maskedCnt k r c = ((maskedL k r c).length : Int) by unfold maskedCnt; rw [h]; rfl)
    have HLEN := hide (maskedL_len k r c)
    rw [HC.out]
    rw [h] at HMO
    have HIW := hide fun w' (hw : Below w.heap.size w w') => imagesMeeting_any vk va vb k r c w' (inMat_below hk hw) (rowC_below ha hw) (inRow_below hb hw)
    have HCO := hide fun (w1 w3 : World) (h1 : Below w.heap.size w w1) (h3 : Below w1.heap.size w1 w3) (hs : w3.heap.size = w1.heap.size + 4) (hx0 : w3.cell? ⟨w1.heap.size, 0, none⟩ = some vk) (hx1 : w3.cell? ⟨w1.heap.size + 1, 0, none⟩ = some va) (hx2 : w3.cell? ⟨w1.heap.size + 2, 0, none⟩ = some vb) (hx3 : w3.cell? ⟨w1.heap.size + 3, 0, none⟩ = some (.func (.func 57) #[] #[.pointer (some ⟨w1.heap.size, 0, none⟩)])) =>
      countOf_any 85 (enters_of Tryz.func85 (by kernel_rfl) rfl) #[.pointer (some ⟨w1.heap.size + 1, 0, none⟩), .pointer (some ⟨w1.heap.size + 3, 0, none⟩), .pointer (some ⟨w1.heap.size + 2, 0, none⟩)] (maskedL k r c) w w3 (h1.trans (h3.mono h1.size)) HLEN.out
        (fun W hW hlt => mask_start hk ha hb h ((h1.trans (h3.mono h1.size)).trans (hW.mono (h1.trans (h3.mono h1.size)).size)) (fun k hk => ⟨by have := h1.size; omega, by omega⟩) (below_cell hW (by omega) hx0) (below_cell hW (by omega) hx1) (below_cell hW (by omega) hx2) (below_cell hW (by omega) hx3) (by omega) (by omega) (by omega) (by omega))
    obtain ⟨L, hL⟩ : ∃ L, L = maskedL k r c := ⟨_, rfl⟩
    rw [← hL] at HCO ⊢
    obtain ⟨ak, ck, rfl, -, -⟩ := hk
    obtain ⟨-, a1, c1, rfl, -, -⟩ := ha
    obtain ⟨a2, c2, rfl, -, -⟩ := hb
    obtain ⟨n1, hn1⟩ : ∃ n, n = r.length := ⟨_, rfl⟩
    obtain ⟨n2, hn2⟩ : ∃ n, n = c.length := ⟨_, rfl⟩
    obtain ⟨n3, hn3⟩ : ∃ n, n = k.length := ⟨_, rfl⟩
    rw [← hn1, ← hn2, ← hn3] at HMO HIW HCO
    rw [← hn1, ← hn2, ← hn3]
    clear h hn1 hn2 hn3 hL HC HLEN
    go_enter Tryz.func19, Tryz.ntmps19
    go_wp2_with (go_at_call 31; refine HMO.out.mono ?_; rintro e w1 ⟨rfl, b1⟩; have B1 := hide b1; clear b1)
    refine (HIW.out _ B1.out).mono ?_
    rintro e w3 ⟨rfl, hx0, hx1, hx2, hx3, hb3, hs3⟩
    have HC3 := hide (HCO.out _ w3 B1.out hb3 hs3 hx0 hx1 hx2 hx3)
    clear hx0 hx1 hx2 hx3 hb3 hs3
    go_wp2_with fail
    refine HC3.out.mono ?_
    rintro e w4 ⟨rfl, b4⟩
    have B4 := hide b4
    clear b4
    go_wp2
    go_ret
    exact ⟨rfl, B4.out⟩
/-- What the program's cells hold while it looks for the first image. -/
def SeekSt (q : Nat) (pre : List (List (List Int))) (A : Nat → Prop) (W : World) : Prop := pre = [] ∧ (∀ k, A k ↔ k = q ∨ k = q + 1) ∧ Boxed W q 22 (.slice none 0 0) ∧ Boxed W (q + 1) 4 (.bool false)
/-- .. and once it has found it. -/
def FoundSt (w : World) (q : Nat) (pre : List (List (List Int))) (A : Nat → Prop) (W : World) : Prop :=
  ∃ (m : List (List Int)) (v : Value) (lo : Nat) (G : Nat → Prop), pre = [m] ∧ Boxed W q 22 v ∧ Boxed W (q + 1) 4 (.bool true) ∧ ValM v m lo G W ∧ (∀ k, G k → A k ∧ k < W.heap.size) ∧ w.heap.size ≤ lo ∧ (A q ∧ A (q + 1)) ∧ Below w.heap.size w W
theorem results_cells {fn : Func} {t u : Tmp} {ty tz : TypeId} (h : fn.results = #[.cell t ty, .cell u tz]) {tmps : Array Value} {P : Program} {w : World} {v z : Value} {a b : Addr} (ht : tmps.getD t undef = .pointer (some a)) (hu : tmps.getD u undef = .pointer (some b))
    (hv : (loadVar ty a).run P w = .ok v w) (hz : (loadVar tz b).run P w = .ok z w) : (results fn tmps).run P w = .ok (.tuple #[v, z]) w := by
  have ht' : tmps[t]?.getD undef = .pointer (some a) := by simpa using ht
  have hu' : tmps[u]?.getD undef = .pointer (some b) := by simpa using hu
  simp [results, h, ht', hu', asAddr, hv, hz]
theorem loadMat_run {w : World} {q : Nat} {v : Value} (h : Boxed w q 22 v) : (loadVar 22 ⟨q, 0, none⟩).run Tryz.prog w = .ok v w := by
  have hc := h.cell
  go_simp
theorem loadBool_run {w : World} {q : Nat} {b : Bool} (h : Boxed w q 4 (.bool b)) : (loadVar 4 ⟨q, 0, none⟩).run Tryz.prog w = .ok (.bool b) w := by
  have hc := h.cell
  go_simp

set_option maxRecDepth 100000 in
set_option maxHeartbeats 1000000 in
theorem implMaskedImage_yes (vk va vb : Value) (k : List (List Int)) (r c : List Int) (w : World) (hk : InMat w vk k) (ha : RowC w va r) (hb : InRow w vb c) (h : maskB k r c = true) :
    Calls Tryz.prog 13 #[vk, va, vb] w (MatRes2 (maskedIm k r c) (maskedImB k r c) w) := by
  have HANS := hide (show maskedIm k r c = (maskedL k r c).headD [] by unfold maskedIm; rw [h]; rfl)
  have HANB := hide (show maskedImB k r c = !(maskedL k r c).isEmpty by unfold maskedImB; rw [h]; rfl)
  rw [HANS.out, HANB.out]
  obtain ⟨w1, hw1⟩ : ∃ w1, w1 = (w.alloc (.cells #[.slice none 0 0] 22)).alloc (.cells #[.bool false] 4) := ⟨_, rfl⟩
  have B1 := hide (show Below w.heap.size w w1 by rw [hw1]; exact ((Below.refl _ w).alloc (Nat.le_refl _) _).alloc (by simp) _)
  have HS1 := hide (show w1.heap.size = w.heap.size + 2 by rw [hw1]; simp)
  have HQ1 := hide (show Boxed w1 w.heap.size 22 (.slice none 0 0) by rw [hw1]; exact (Boxed.new _ _ _).alloc _)
  have HQ2 := hide (show Boxed w1 (w.heap.size + 1) 4 (.bool false) by
    rw [hw1]
    have := Boxed.new (w.alloc (.cells #[.slice none 0 0] 22)) 4 (.bool false)
    simpa using this)
  have HMO := hide (implMaskOk_any vk va vb k r c w1 (inMat_below hk B1.out) (inRow_below ha.1 B1.out) (inRow_below hb B1.out))
  rw [h] at HMO
  have HIW := hide fun w' (hw : Below w.heap.size w w') => imagesMeeting_any vk va vb k r c w' (inMat_below hk hw) (rowC_below ha hw) (inRow_below hb hw)
  have HSEQ := hide fun (W : World) (b : Nat) (A : Nat → Prop) (hW : Below w.heap.size w W) (hA : ∀ k, A k → w.heap.size ≤ k ∧ k < W.heap.size) (hA2 : ∀ k, A k → k < b) (h0 : W.cell? ⟨b, 0, none⟩ = some vk) (h1 : W.cell? ⟨b + 1, 0, none⟩ = some va) (h2 : W.cell? ⟨b + 2, 0, none⟩ = some vb) (h3 : W.cell? ⟨b + 3, 0, none⟩ = some (.func (.func 57) #[] #[.pointer (some ⟨b, 0, none⟩)])) =>
    mask_start hk ha hb h hW hA h0 h1 h2 h3 (fun x => Nat.lt_irrefl _ (hA2 _ x)) (fun x => by have := hA2 _ x; omega) (fun x => by have := hA2 _ x; omega) (fun x => by have := hA2 _ x; omega)
  obtain ⟨L, hL⟩ : ∃ L, L = maskedL k r c := ⟨_, rfl⟩
  rw [← hL] at HSEQ ⊢
  have HM0 := hide (show ∀ m t, L = m :: t → L.headD [] = m ∧ (!L.isEmpty) = true from fun m t e => by rw [e]; exact ⟨rfl, rfl⟩)
  have HM1 := hide (show L = [] → L.headD [] = [] ∧ (!L.isEmpty) = false from fun e => by rw [e]; exact ⟨rfl, rfl⟩)
  obtain ⟨M0, hM0⟩ : ∃ M0, M0 = L.headD [] := ⟨_, rfl⟩
  obtain ⟨bb, hbb⟩ : ∃ bb, bb = !L.isEmpty := ⟨_, rfl⟩
  rw [← hM0, ← hbb] at HM0 HM1
  rw [← hM0, ← hbb]
  obtain ⟨ak, ck, rfl, -, -⟩ := hk
  obtain ⟨-, a1, c1, rfl, -, -⟩ := ha
  obtain ⟨a2, c2, rfl, -, -⟩ := hb
  obtain ⟨n1, hn1⟩ : ∃ n, n = r.length := ⟨_, rfl⟩
  obtain ⟨n2, hn2⟩ : ∃ n, n = c.length := ⟨_, rfl⟩
  obtain ⟨n3, hn3⟩ : ∃ n, n = k.length := ⟨_, rfl⟩
  rw [← hn1, ← hn2, ← hn3] at HMO HIW HSEQ
  rw [← hn1, ← hn2, ← hn3]
  clear h hn1 hn2 hn3 hL HANS HANB hM0 hbb
  refine (callsIn_wide (n := 0)).1 ?_
  refine callsIn_of_wp_marks Tryz.func13 rfl trivial ?_ rfl
  simp only [Tryz.ntmps13, List.size_toArray, List.length_cons, List.length_nil, Nat.reduceAdd, Nat.reduceSub, Array.replicate_succ, Array.replicate_zero, List.push_toArray, List.append_toArray, List.nil_append, List.cons_append]
  gi_wp2_with fail
  rw [← hw1]
  clear hw1
  refine ⟨trivial, rfl, (callsIn_wide (n := 0)).2 (HMO.out.mono ?_)⟩
  rintro e w2 ⟨rfl, b2⟩
  have B2 := hide b2
  clear b2
  gi_wp2_with fail
  have BW2 := hide (B1.out.trans (B2.out.mono B1.out.size))
  refine ⟨trivial, rfl, (callsIn_wide (n := 0)).2 ((HIW.out w2 BW2.out).mono ?_)⟩
  rintro e w3 ⟨rfl, hx0, hx1, hx2, hx3, hb3, hs3⟩
  have B3 := hide (BW2.out.trans (hb3.mono BW2.out.size))
  have HX := hide (And.intro hx0 (And.intro hx1 (And.intro hx2 hx3)))
  have HS3 := hide hs3
  have HS2 := hide (show w.heap.size + 2 ≤ w2.heap.size by have := HS1.out; have := B2.out.size; omega)
  have hbq : Below w1.heap.size w1 w3 := B2.out.trans (hb3.mono B2.out.size)
  have HST := hide (show SeekSt w.heap.size [] (fun k => k = w.heap.size ∨ k = w.heap.size + 1) w3 from ⟨rfl, fun _ => Iff.rfl, (hbq.block _ HQ1.out.lt).trans HQ1.out, (hbq.block _ HQ2.out.lt).trans HQ2.out⟩)
  clear hx0 hx1 hx2 hx3 hb3 hs3 hbq
  gi_wp2_with fail
  refine wp_rangeEach (gf := 85) (lb := #[.pointer (some ⟨w2.heap.size + 1, 0, none⟩), .pointer (some ⟨w2.heap.size + 3, 0, none⟩), .pointer (some ⟨w2.heap.size + 2, 0, none⟩)]) rfl (enters_of Tryz.func85 (by kernel_rfl) rfl)
    (L := L) (Val := ValM) (fun v m lo G W W' h1 _ h3 => valM_agr h1 h3) (fun k => k = w.heap.size ∨ k = w.heap.size + 1) (fun k hk => by have h1 := HS2.out; have h2 := HS3.out; omega) (fun W4 hb4 hs4 => ?seq) rfl
    (SeekSt w.heap.size)
    (fun cc pre A W => cc = .ret ∧ FoundSt w w.heap.size pre A W) ?hI (fun cc => ?hIx) (fun pre A W h k hk => by have h1 := h.2.2.1.lt; have h2 := h.2.2.2.lt; have h3 := (h.2.1 k).1 hk; omega) HST.out
    (fun x => { tmps := #[.slice ak n3 ck, .slice a1 n1 c1, .slice a2 n2 c2, undef, undef, undef, .pointer (some ⟨w.heap.size, 0, none⟩), .pointer (some ⟨w.heap.size + 1, 0, none⟩), x, .slice ak n3 ck, .slice a1 n1 c1, .slice a2 n2 c2, .bool true, .bool false, .slice ak n3 ck, .slice a1 n1 c1, .slice a2 n2 c2, .func (.func 85) #[] #[.pointer (some ⟨w2.heap.size + 1, 0, none⟩), .pointer (some ⟨w2.heap.size + 3, 0, none⟩), .pointer (some ⟨w2.heap.size + 2, 0, none⟩)], x, undef], defers := [] }) ?assign ?body ?done ?stop
  case seq =>
    have h1 := HS2.out; have h2 := HS3.out
    exact HSEQ.out W4 w2.heap.size _ (B3.out.trans (hb4.mono B3.out.size)) (fun k hk => by omega) (fun k hk => by omega) (below_cell hb4 (by omega) HX.out.1) (below_cell hb4 (by omega) HX.out.2.1) (below_cell hb4 (by omega) HX.out.2.2.1) (below_cell hb4 (by omega) HX.out.2.2.2)
  case hI =>
    have h1 := HS2.out; have h2 := HS3.out
    exact fun s A W W' h _ _ _ _ hk => ⟨h.1, h.2.1, (hk _ h.2.2.1.lt (.inl (by omega))).trans h.2.2.1, (hk _ h.2.2.2.lt (.inl (by omega))).trans h.2.2.2⟩
  case hIx =>
    have h1 := HS2.out; have h2 := HS3.out
    rintro s A W W' ⟨hc, m, v, lo, G, g1, g2, g3, g4, g5, g6, g7, g8⟩ ho ht hp hs hk
    exact ⟨hc, m, v, lo, G, g1, (hk _ g2.lt (.inr g7.1)).trans g2, (hk _ g3.lt (.inr g7.2)).trans g3, valM_agr g4 fun k hG => hk k (g5 k hG).2 (.inr (g5 k hG).1), fun k hG => ⟨(g5 k hG).1, Nat.lt_of_lt_of_le (g5 k hG).2 hs⟩, g6, g7,
      ⟨ho.trans g8.os, ht.trans g8.tape, hp.trans g8.output, Nat.le_trans g8.size hs, fun k hk2 => by rw [hk k (Nat.lt_of_lt_of_le hk2 g8.size) (.inl (by omega))]; exact g8.block k hk2⟩⟩
  case assign =>
    intro l2 x m lo G W K hv hK
    obtain ⟨ax, nx, cx, rfl⟩ : ∃ a n c, x = .slice a n c := by obtain ⟨vs, ⟨hv, -⟩, -⟩ := hv; obtain ⟨a, c, h⟩ := own_slice hv; exact ⟨a, _, c, h⟩
    clear hv
    gi_wp2
    exact hK
  case body =>
    intro l2 pre A m x lo G W hi hst hpre hval hlo hlo1 hAlo hG
    obtain ⟨ax, nx, cx, rfl⟩ : ∃ a n c, x = .slice a n c := by obtain ⟨vs, ⟨hv, -⟩, -⟩ := id hval; obtain ⟨a, c, h⟩ := own_slice hv; exact ⟨a, _, c, h⟩
    obtain ⟨rfl, hA1, hq1, hq2⟩ := hi
    have HQA := hide hq1; have HQB := hide hq2; have HA1 := hide hA1; have HVAL := hide hval; have HG := hide hG; have HLO := hide hlo; have HALO := hide hAlo
    have hc1 := hq1.cell
    have hf1 := hq1.frozen
    have hc2 := hq2.cell
    have hf2 := hq2.frozen
    have HBW := hide (below_itStep B3.out (fun k hk => by omega) hst)
    clear hst hpre hval hlo hlo1 hAlo hG hA1 hq1 hq2
    gi_wp2
    obtain ⟨q, hq⟩ : ∃ q, q = w.heap.size := ⟨_, rfl⟩
    obtain ⟨W', hW'⟩ : ∃ W', W' = (W.setCell ⟨q, 0, none⟩ (.slice ax nx cx)).setCell ⟨q + 1, 0, none⟩ (.bool true) := ⟨_, rfl⟩
    have hqb : q + 1 < lo := hq ▸ HALO.out _ ((HA1.out _).2 (.inr rfl))
    have hsz : W'.heap.size = W.heap.size := by rw [hW']; simp [World.setCell]
    have hblk : ∀ k, k ≠ q → k ≠ q + 1 → W'.heap[k]? = W.heap[k]? := fun k h1 h2 => by
      rw [hW']
      exact (Below.heap_setCell _ _ _ _ h2).trans (Below.heap_setCell _ _ _ _ h1)
    have hbq1 : Boxed W' q 22 (.slice ax nx cx) := by
      rw [hW']
      exact (Below.heap_setCell _ _ _ _ (Nat.ne_of_lt (Nat.lt_succ_self _))).trans ((hq ▸ HQA.out).set _)
    have hbq2 : Boxed W' (q + 1) 4 (.bool true) := by
      have hb0 : Boxed (W.setCell ⟨q, 0, none⟩ (.slice ax nx cx)) (q + 1) 4 (.bool false) := (Below.heap_setCell _ _ _ _ (Nat.ne_of_gt (Nat.lt_succ_self _))).trans (hq ▸ HQB.out)
      rw [hW']
      exact hb0.set _
    have hval : ValM (.slice ax nx cx) m lo G W' := valM_agr HVAL.out fun k hk => hblk k (by have := HG.out k hk; omega) (by have := HG.out k hk; omega)
    have hbw : Below w.heap.size w W' := by
      have hb := HBW.out
      refine ⟨?_, ?_, ?_, Nat.le_trans hb.size (by rw [hsz]; exact Nat.le_refl _), fun k hk => (hblk k (by omega) (by omega)).trans (hb.block k hk)⟩
      · rw [hW']; exact hb.os
      · rw [hW']; exact hb.tape
      · rw [hW']; exact hb.output
    rw [← hq, ← hW']
    have h2 := HS2.out; have h3 := HS3.out; have hl := HLO.out
    refine ⟨fun k => A k ∨ G k, ⟨rfl, m, _, lo, G, rfl, hbq1, hbq2, hval, fun k hk => ⟨.inr hk, by rw [hsz]; exact (HG.out k hk).2⟩, by omega, ⟨.inl ((HA1.out _).2 (.inl hq)), .inl ((HA1.out _).2 (.inr (by rw [hq])))⟩, hbw⟩, by rw [hsz]; exact Nat.le_refl _, fun k _ _ hn => hblk k (fun e => hn ((HA1.out k).2 (.inl (e.trans hq)))) (fun e => hn ((HA1.out k).2 (.inr (by rw [e, hq])))), fun k hk => ?_⟩
    rcases hk with hk | hk
    · exact .inl hk
    · exact .inr (.inl hk)
  case done =>
    rintro A W ⟨hLn, hA1, hq1, hq2⟩ hst _ hmk
    obtain ⟨rfl, rfl⟩ := HM1.out hLn
    have hc1 := hq1.cell
    have hf1 := hq1.frozen
    have hc2 := hq2.cell
    have hf2 := hq2.frozen
    have HQA := hide hq1; have HQB := hide hq2
    have HMK := hide hmk
    have HBB := hide (below_itStep B3.out (fun k hk => by omega) hst)
    clear hst hmk hA1 hq1 hq2 hLn
    gi_wp2
    obtain ⟨W', hW'⟩ : ∃ W', W' = (W.setCell ⟨w.heap.size, 0, none⟩ (.slice none 0 0)).setCell ⟨w.heap.size + 1, 0, none⟩ (.bool false) := ⟨_, rfl⟩
    rw [← hW']
    have h2 := HS2.out; have h3 := HS3.out
    have hblk : ∀ k, k ≠ w.heap.size → k ≠ w.heap.size + 1 → W'.heap[k]? = W.heap[k]? := fun k h1 h2 => by
      rw [hW']
      exact (Below.heap_setCell _ _ _ _ h2).trans (Below.heap_setCell _ _ _ _ h1)
    have hbq1 : Boxed W' w.heap.size 22 (.slice none 0 0) := by
      rw [hW']
      exact (Below.heap_setCell _ _ _ _ (Nat.ne_of_lt (Nat.lt_succ_self _))).trans (HQA.out.set _)
    have hbq2 : Boxed W' (w.heap.size + 1) 4 (.bool false) := by
      have hb0 : Boxed (W.setCell ⟨w.heap.size, 0, none⟩ (.slice none 0 0)) (w.heap.size + 1) 4 (.bool false) := (Below.heap_setCell _ _ _ _ (Nat.ne_of_gt (Nat.lt_succ_self _))).trans HQB.out
      rw [hW']
      exact hb0.set _
    have hbw : Below w.heap.size w W' := by
      have hb := HBB.out
      refine ⟨?_, ?_, ?_, Nat.le_trans hb.size (by rw [hW']; simp [World.setCell]), fun k hk => (hblk k (by omega) (by omega)).trans (hb.block k hk)⟩
      · rw [hW']; exact hb.os
      · rw [hW']; exact hb.tape
      · rw [hW']; exact hb.output
    have hmk' := (hblk w3.heap.size (by omega) (by omega)).trans HMK.out
    refine ⟨by simp, .inl ⟨_, _, rfl, run_takeDeferred hmk', ?_⟩⟩
    refine ⟨_, results_cells rfl rfl rfl (loadMat_run (v := .slice none 0 0) ?_) (loadBool_run (b := false) ?_), _, rfl, ownMat_nil _ _ _, below_putObj hbw B3.out.size _⟩
    · exact (World.putObj_heap_other (by omega)).trans hbq1
    · exact (World.putObj_heap_other (by omega)).trans hbq2
  case stop =>
    rintro cc pre A W ⟨t, ht⟩ ⟨rfl, m, v, lo, G, rfl, g2, g3, g4, g5, g6, g7, g8⟩ hA3 hmk
    obtain ⟨rfl, rfl⟩ := HM0.out m t ht.symm
    have HMK := hide hmk; have H2 := hide g2; have H3 := hide g3; have H4 := hide g4; have H5 := hide g5; have H8 := hide g8; have H6 := hide g6
    have hszm := (Array.getElem?_eq_some_iff.1 hmk).1
    clear hmk g2 g3 g4 g5 g6 g7 g8 ht hA3
    gi_wp2
    have h2 := HS2.out; have h3 := HS3.out
    refine ⟨by simp, .inl ⟨_, _, rfl, run_takeDeferred HMK.out, ?_⟩⟩
    refine ⟨_, results_cells rfl rfl rfl (loadMat_run (v := v) ?_) (loadBool_run (b := true) ?_), _, rfl, ?_, below_putObj H8.out B3.out.size _⟩
    · exact (World.putObj_heap_other (by omega)).trans H2.out
    · exact (World.putObj_heap_other (by omega)).trans H3.out
    · have hm := valM_own H4.out fun k hk => (H5.out k hk).2
      exact ownMat_mono (ownMat_putObj _ hm HMK.out rfl) H6.out (by simp)
set_option maxHeartbeats 1000000 in
theorem implMaskedImage_any (vk va vb : Value) (k : List (List Int)) (r c : List Int) (w : World) (hk : InMat w vk k) (ha : RowC w va r) (hb : InRow w vb c) :
    Calls Tryz.prog 13 #[vk, va, vb] w (MatRes2 (maskedIm k r c) (maskedImB k r c) w) := by
  cases h : maskB k r c with
  | true => exact implMaskedImage_yes vk va vb k r c w hk ha hb h
  | false =>
    have HANS := hide (show maskedIm k r c = [] by unfold maskedIm; rw [h]; rfl)
    have HANB := hide (show maskedImB k r c = false by unfold maskedImB; rw [h]; rfl)
    rw [HANS.out, HANB.out]
    obtain ⟨w1, hw1⟩ : ∃ w1, w1 = (w.alloc (.cells #[.slice none 0 0] 22)).alloc (.cells #[.bool false] 4) := ⟨_, rfl⟩
    have B1 := hide (show Below w.heap.size w w1 by rw [hw1]; exact ((Below.refl _ w).alloc (Nat.le_refl _) _).alloc (by simp) _)
    have HS1 := hide (show w1.heap.size = w.heap.size + 2 by rw [hw1]; simp)
    have HQ1 := hide (show Boxed w1 w.heap.size 22 (.slice none 0 0) by rw [hw1]; exact (Boxed.new _ _ _).alloc _)
    have HQ2 := hide (show Boxed w1 (w.heap.size + 1) 4 (.bool false) by
      rw [hw1]
      have := Boxed.new (w.alloc (.cells #[.slice none 0 0] 22)) 4 (.bool false)
      simpa using this)
    have HMO := hide (implMaskOk_any vk va vb k r c w1 (inMat_below hk B1.out) (inRow_below ha.1 B1.out) (inRow_below hb B1.out))
    rw [h] at HMO
    obtain ⟨ak, ck, rfl, -, -⟩ := hk
    obtain ⟨-, a1, c1, rfl, -, -⟩ := ha
    obtain ⟨a2, c2, rfl, -, -⟩ := hb
    generalize r.length = n1 at *
    generalize c.length = n2 at *
    generalize k.length = n3 at *
    clear h HANS HANB
    refine (callsIn_wide (n := 0)).1 ?_
    refine callsIn_of_wp_marks Tryz.func13 rfl trivial ?_ rfl
    simp only [Tryz.ntmps13, List.size_toArray, List.length_cons, List.length_nil, Nat.reduceAdd, Nat.reduceSub, Array.replicate_succ, Array.replicate_zero, List.push_toArray, List.append_toArray, List.nil_append, List.cons_append]
    gi_wp2_with fail
    rw [← hw1]
    clear hw1
    refine ⟨trivial, rfl, (callsIn_wide (n := 0)).2 (HMO.out.mono ?_)⟩
    rintro e w2 ⟨rfl, b2⟩
    have B2 := hide b2
    have HQA := hide ((b2.block _ HQ1.out.lt).trans HQ1.out)
    have HQB := hide ((b2.block _ HQ2.out.lt).trans HQ2.out)
    have hc1 := Boxed.cell (v := .slice none 0 0) HQA.out
    have hf1 := Boxed.frozen (v := .slice none 0 0) HQA.out
    have hc2 := Boxed.cell (v := .bool false) HQB.out
    have hf2 := Boxed.frozen (v := .bool false) HQB.out
    clear b2
    gi_wp2
    obtain ⟨W', hW'⟩ : ∃ W', W' = (w2.setCell ⟨w.heap.size, 0, none⟩ (.slice none 0 0)).setCell ⟨w.heap.size + 1, 0, none⟩ (.bool false) := ⟨_, rfl⟩
    rw [← hW']
    have hblk : ∀ k, k ≠ w.heap.size → k ≠ w.heap.size + 1 → W'.heap[k]? = w2.heap[k]? := fun k h1 h2 => by
      rw [hW']
      exact (Below.heap_setCell _ _ _ _ h2).trans (Below.heap_setCell _ _ _ _ h1)
    have hbq1 : Boxed W' w.heap.size 22 (.slice none 0 0) := by
      rw [hW']
      exact (Below.heap_setCell _ _ _ _ (Nat.ne_of_lt (Nat.lt_succ_self _))).trans ((show Boxed w2 w.heap.size 22 (.slice none 0 0) from HQA.out).set _)
    have hbq2 : Boxed W' (w.heap.size + 1) 4 (.bool false) := by
      have hb0 : Boxed (w2.setCell ⟨w.heap.size, 0, none⟩ (.slice none 0 0)) (w.heap.size + 1) 4 (.bool false) := (Below.heap_setCell _ _ _ _ (Nat.ne_of_gt (Nat.lt_succ_self _))).trans HQB.out
      rw [hW']
      exact hb0.set _
    have hbw : Below w.heap.size w W' := by
      have hb := B1.out.trans (B2.out.mono B1.out.size)
      refine ⟨?_, ?_, ?_, Nat.le_trans hb.size (by rw [hW']; simp [World.setCell]), fun k hk => (hblk k (by omega) (by omega)).trans (hb.block k hk)⟩
      · rw [hW']; exact hb.os
      · rw [hW']; exact hb.tape
      · rw [hW']; exact hb.output
    exact ⟨_, results_cells rfl rfl rfl (loadMat_run hbq1) (loadBool_run hbq2), _, rfl, ownMat_nil _ _ _, hbw⟩
end Go.Proofs.YtbogeghoekmbhaaGreat
