/-
  Texts of this claim, one behind the other: Min, Exist, Gale, Dfs, RowFn, DelI, DelR.
-/
import Derived.Test.YtcliiefedmiokaaGreatPackJ
import Derived.Test.YtcliiefedmiokaaGreatPackA
import Derived.Test.YtcliiefedmiokaaGreatPackC
import Derived.Test.YtcliiefedmiokaaGreatPackD
import Derived.Laws.IdiomCopy
import Derived.Lib.SliceRun
import Derived.Shelf.Abstract
import Derived.Deep.LoopGhost
import Derived.Shelf.Slices.Delete
import Derived.Shelf.Slices.Cells
import Derived.Lib.OwnBridge
/-
  The first broken bound, and the least slack.
-/
namespace Go.Proofs.YtcliiefedmiokaaGreat
open Go.RowKit

/-- The place of the first broken bound, k the place of the first one; -1. -/
def firstB : List (Int × Int) → Int → Int
  | [], _ => -1
  | b :: l, k => if b.2 - b.1 < 0 then k else firstB l (k + 1)
theorem firstB_drop {bs : List (Int × Int)} {k : Nat} (h : k < bs.length) : firstB (bs.drop k) k = if bs[k].2 - bs[k].1 < 0 then (k : Int) else firstB (bs.drop (k + 1)) ((k + 1 : Nat) : Int) := by
  rw [List.drop_eq_getElem_cons h, firstB]; simp
/-- The least slack, a among them. -/
def minB : List (Int × Int) → Int → Int
  | [], a => a
  | b :: l, a => minB l (if b.2 - b.1 < a then b.2 - b.1 else a)
theorem minB_drop {bs : List (Int × Int)} {k : Nat} (h : k < bs.length) (a : Int) : minB (bs.drop k) a = minB (bs.drop (k + 1)) (if bs[k].2 - bs[k].1 < a then bs[k].2 - bs[k].1 else a) := by
  rw [List.drop_eq_getElem_cons h, minB]
/-- Sums of images. -/
def SmallB (bs : List (Int × Int)) : Prop := ∀ i, (h : i < bs.length) → (0 ≤ bs[i].1 ∧ bs[i].1 ≤ 25) ∧ 0 ≤ bs[i].2 ∧ bs[i].2 ≤ 25
theorem smallB_tab {S C : List Int} (n : Nat) (hs : SmallL S) (hc : SmallL C) : SmallB (tabB n S C) := fun i hi => by
  rw [tabB_at hi]; exact ⟨small_sum hs _, small_sum hc _⟩

set_option maxHeartbeats 1000000 in
theorem indexBroken_any (v : Value) (bs : List (Int × Int)) (w : World) (hin : InBounds w v bs) (hs : SmallB bs) (hn : bs.length ≤ 5) :
    Calls Tryz.prog 126 #[v, .func (.func 128) #[] #[]] w fun e w' => e = .returned (.int .i64 (firstB bs 0)) ∧ Below w.heap.size w w' := by
  obtain ⟨g, c, rfl, -, hg, hc⟩ := hin
  have HC := hide hc; have HS := hide hs
  obtain ⟨n, hnn⟩ : ∃ n, n = bs.length := ⟨_, rfl⟩
  have HN := hide hnn
  rw [← hnn] at hn ⊢
  clear hc hs hnn
  go_enter Tryz.func126, Tryz.ntmps126
  go_wp2
  go_loopw [8] (fun i wr => ∃ k : Nat, k ≤ n ∧ i = .int .i64 k ∧ firstB bs 0 = firstB (bs.drop k) k ∧ Below w.heap.size w wr) (fun i _ => n - (intOf i).toNat)
  case atStart => exact ⟨0, Nat.zero_le _, rfl, rfl, Below.refl _ _⟩
  case round =>
    obtain ⟨k, hk, rfl, hf, hb⟩ := hrel
    have HF := hide hf; have HB := hide hb
    clear hf hb
    by_cases hlt : k < n
    · have hk' : k < bs.length := by rw [← HN.out]; exact hlt
      obtain ⟨hc1, hc2⟩ := HC.out k hk'
      have hc1 := below_cell HB.out hg hc1
      have hc2 := below_cell HB.out hg hc2
      have HBR := hide fun w => isBroken_any bs[k].1 bs[k].2 w (HS.out k hk').1 (HS.out k hk').2
      have HD := hide (firstB_drop hk')
      obtain ⟨s, hs⟩ : ∃ s, s = bs[k].1 := ⟨_, rfl⟩
      obtain ⟨m, hm⟩ : ∃ m, m = bs[k].2 := ⟨_, rfl⟩
      rw [← hs] at hc1 HBR HD
      rw [← hm] at hc2 HBR HD
      clear hs hm
      by_cases hbr : m - s < 0
      · have HE := hide (decide_eq_true hbr)
        have HR : Hid (firstB bs 0 = k) := hide (by rw [HF.out, HD.out, if_pos hbr])
        clear hbr
        go_wp2_with (go_at_call 128; refine (HBR.out _).mono ?_; rw [HE.out]; rintro e w9 ⟨rfl, hb⟩; have HB9 := hide (HB.out.trans (hb.mono HB.out.size)); clear hb)
        go_ret
        exact ⟨ret_int HR.out.symm, HB9.out⟩
      · have HE := hide (decide_eq_false hbr)
        have HR : Hid (firstB bs 0 = firstB (bs.drop (k + 1)) ((k + 1 : Nat) : Int)) := hide (by rw [HF.out, HD.out, if_neg hbr])
        clear hbr
        go_wp2_with (go_at_call 128; refine (HBR.out _).mono ?_; rw [HE.out]; rintro e w9 ⟨rfl, hb⟩; have HB9 := hide (HB.out.trans (hb.mono HB.out.size)); clear hb)
        go_roundw
        case rel => exact ⟨k + 1, by omega, by go_num, HR.out, HB9.out⟩
        case measure => simp [intOf]; omega
    · have HR : Hid (firstB bs 0 = -1) := hide (by rw [HF.out, List.drop_of_length_le (by have := HN.out; omega)]; rfl)
      go_wp2
      go_ret
      exact ⟨ret_int HR.out.symm, HB.out⟩

theorem boundAt_set {w : World} {g : Nat} {s m : Int} (h : BoundAt w g s m) (s' m' : Int) : BoundAt ((w.setCell ⟨g, 0, none⟩ (.int .i64 s')).setCell ⟨g, 1, none⟩ (.int .i64 m')) g s' m' := by
  have h1 := heap_setCell_same w g 0 _ _ (.int .i64 s') h
  exact heap_setCell_same _ g 1 _ _ (.int .i64 m') h1
theorem boundAt_other {w : World} {g q : Nat} {s m : Int} (h : BoundAt w g s m) (hne : g ≠ q) (s' m' : Int) : BoundAt ((w.setCell ⟨q, 0, none⟩ (.int .i64 s')).setCell ⟨q, 1, none⟩ (.int .i64 m')) g s m := by
  unfold BoundAt
  rw [heap_setCell_other _ ⟨q, 1, none⟩ g _ (fun e => hne e), heap_setCell_other _ ⟨q, 0, none⟩ g _ (fun e => hne e)]; exact h
def MinRes (bs : List (Int × Int)) (a : Int) (w : World) (e : Ending) (w' : World) : Prop := ∃ s m : Int, e = .returned (.agg #[.int .i64 s, .int .i64 m]) ∧ ((0 ≤ s ∧ s ≤ 25) ∧ 0 ≤ m ∧ m ≤ 25) ∧ m - s = minB (bs.drop 1) a ∧ Below w.heap.size w w'
end Go.Proofs.YtcliiefedmiokaaGreat
/-
  WorstColumns, Exists, SlackOf of the program and of the model.
-/
namespace Go.Proofs.YtcliiefedmiokaaGreat
open Go.RowKit

theorem firstB_range : ∀ (l : List (Int × Int)) (k : Int), 0 ≤ k → -1 ≤ firstB l k ∧ firstB l k < k + l.length ∨ firstB l k = -1
  | [], _, _ => .inr rfl
  | b :: l, k, h => by
    rw [firstB]
    by_cases e : b.2 - b.1 < 0
    · rw [if_pos e]; left; rw [List.length_cons]; omega
    · rw [if_neg e]
      have := firstB_range l (k + 1) (by omega)
      rw [List.length_cons]; omega
theorem boundsL_len (r c : List Int) : (boundsL r c).length = c.length := by rw [boundsL, tabB_len]
theorem boundsL_small {r c : List Int} (h : sumsOk r c = true) : SmallB (boundsL r c) := by
  obtain ⟨hr, hc, -, hcb, -⟩ := sumsOk_yes h
  exact smallB_tab _ (small_perm (sortD_perm c) (small_of (m := r.length) hc.2 (by omega) hcb)) (small_conj hr.2 hc.2)
/-- What WorstColumns, Exists, SlackOf return. -/
def worstOf (r c : List Int) : Int := if sumsOk r c = true then firstB (boundsL r c) 0 + 1 else 0
def existsOf (r c : List Int) : Bool := sumsOk r c && decide (worstOf r c = 0)
def slack0 (bs : List (Int × Int)) : Int := minB (bs.drop 1) ((bs.headD (0, 0)).2 - (bs.headD (0, 0)).1)
def slackOf (r c : List Int) : Int := if existsOf r c = true then slack0 (boundsL r c) else -1
theorem slack0_at {bs : List (Int × Int)} (h : 0 < bs.length) : slack0 bs = minB (bs.drop 1) (bs[0].2 - bs[0].1) := by
  cases bs with
  | nil => exact absurd h (Nat.lt_irrefl 0)
  | cons b l => rfl

set_option maxHeartbeats 400000 in
theorem implWorst_any (va vb : Value) (r c : List Int) (w : World) (ha : InRow w va r) (hb : InRow w vb c) :
    Calls Tryz.prog 92 #[va, vb] w fun e w' => e = .returned (.int .i64 (worstOf r c)) ∧ Below w.heap.size w w' := by
  have HA := hide ha; have HB := hide hb
  clear ha hb
  cases h : sumsOk r c with
  | false =>
    rw [worstOf, if_neg (by rw [h]; decide)]
    have H := hide h
    clear h
    go_enter Tryz.func92, Tryz.ntmps92
    go_wp2_with ((with_reducible refine (implSumsOk_any va vb r c _ HA.out HB.out).mono ?_); rw [H.out]; rintro e w1 ⟨rfl, b1⟩; have B1 := hide b1; clear b1)
    go_ret
    exact ⟨rfl, B1.out⟩
  | true =>
    rw [worstOf, if_pos h]
    have H := hide h
    have HS := hide (boundsL_small h)
    have HL : Hid ((boundsL r c).length ≤ 5) := hide (by rw [boundsL_len]; exact (sumsOk_yes h).2.1.2)
    have hfr := firstB_range (boundsL r c) 0 (Int.le_refl 0)
    have hl := HL.out
    obtain ⟨F, hF⟩ : ∃ F, F = firstB (boundsL r c) 0 := ⟨_, rfl⟩
    have HF := hide hF
    rw [← hF] at hfr ⊢
    have hf1 : -1 ≤ F ∧ F ≤ 5 := by omega
    obtain ⟨hf1, hf2⟩ := hf1
    clear h hF hfr hl
    go_enter Tryz.func92, Tryz.ntmps92
    go_wp2_with (first | ((with_reducible refine (implSumsOk_any va vb r c _ HA.out HB.out).mono ?_); rw [H.out]; rintro e w1 ⟨rfl, b1⟩; have B1 := hide b1; clear b1) | ((with_reducible refine (boundsOf_any va vb r c _ (inRow_below HA.out B1.out) (inRow_below HB.out B1.out) H.out).mono ?_); rintro e w2 ⟨u, rfl, hi, b2⟩; have HI := hide hi; have B2 := hide (B1.out.trans (b2.mono B1.out.size)); clear hi b2) | ((with_reducible refine (indexBroken_any _ (boundsL r c) _ HI.out HS.out HL.out).mono ?_); rw [← HF.out]; rintro e w3 ⟨rfl, b3⟩; have B3 := hide (B2.out.trans (b3.mono B2.out.size)); clear b3))
    go_ret
    exact ⟨rfl, B3.out⟩
set_option maxHeartbeats 400000 in
theorem implExists_any (va vb : Value) (r c : List Int) (w : World) (ha : InRow w va r) (hb : InRow w vb c) :
    Calls Tryz.prog 46 #[va, vb] w fun e w' => e = .returned (.bool (existsOf r c)) ∧ Below w.heap.size w w' := by
  have HA := hide ha; have HB := hide hb
  clear ha hb
  cases h : sumsOk r c with
  | false =>
    rw [existsOf, h]
    have H := hide h
    clear h
    go_enter Tryz.func46, Tryz.ntmps46
    go_wp2_with ((with_reducible refine (implSumsOk_any va vb r c _ HA.out HB.out).mono ?_); rw [H.out]; rintro e w1 ⟨rfl, b1⟩; have B1 := hide b1; clear b1)
    go_ret
    exact ⟨rfl, B1.out⟩
  | true =>
    rw [existsOf, h]
    have H := hide h
    obtain ⟨F, hF⟩ : ∃ F, F = worstOf r c := ⟨_, rfl⟩
    have HF := hide hF
    rw [← hF]
    clear h hF
    go_enter Tryz.func46, Tryz.ntmps46
    go_wp2_with (first | ((with_reducible refine (implSumsOk_any va vb r c _ HA.out HB.out).mono ?_); rw [H.out]; rintro e w1 ⟨rfl, b1⟩; have B1 := hide b1; clear b1) | ((with_reducible refine (implWorst_any va vb r c _ (inRow_below HA.out B1.out) (inRow_below HB.out B1.out)).mono ?_); rw [← HF.out]; rintro e w2 ⟨rfl, b2⟩; have B2 := hide (B1.out.trans (b2.mono B1.out.size)); clear b2))
    go_ret
    exact ⟨ret_bool (by by_cases e : F = 0 <;> simp [e]), B2.out⟩
end Go.Proofs.YtcliiefedmiokaaGreat
/-
  Gale and Ryser: the inequalities hold exactly if there is an image.
-/
namespace Go.Proofs.YtcliiefedmiokaaGreat
open Go.RowKit Mx

theorem S_cons (f : Nat → Int) : ∀ n, S (n + 1) f = f 0 + S n fun i => f (i + 1)
  | 0 => by rw [S, S, S]; omega
  | n + 1 => by rw [S, S_cons f n, S]; omega
theorem sum_S (l : List Int) : l.sum = S l.length fun i => l.getD i 0 := by
  induction l with
  | nil => rfl
  | cons x l ih => rw [List.sum_cons, ih, List.length_cons, S_cons]; simp
theorem map_S (h : Int → Int) (l : List Int) : (l.map h).sum = S l.length fun i => h (l.getD i 0) := by
  rw [sum_S, List.length_map]
  refine S_congr _ fun i hi => ?_
  simp [List.getD_eq_getElem?_getD, hi]
theorem perm_sum {a b : List Int} (h : a.Perm b) : a.sum = b.sum := by
  induction h with
  | nil => rfl
  | cons x _ ih => rw [List.sum_cons, List.sum_cons, ih]
  | swap x y l => rw [List.sum_cons, List.sum_cons, List.sum_cons, List.sum_cons]; omega
  | trans _ _ h1 h2 => rw [h1, h2]

/-- What of x is above v. -/
def upG (v x : Int) : Int := if v ≤ x then x - v else 0
theorem upP_all (v : Int) : ∀ (l : List Int), (∀ x ∈ l, v ≤ x) → (l.map (upG v)).sum = l.sum - l.length * v
  | [], _ => by simp
  | x :: l, h => by
    rw [List.map_cons, List.sum_cons, List.sum_cons, upP_all v l (fun y hy => h y (List.mem_cons_of_mem _ hy)), upG, if_pos (h x List.mem_cons_self), List.length_cons]
    have : (((l.length + 1 : Nat) : Int)) * v = l.length * v + v := by rw [show (((l.length + 1 : Nat) : Int)) = (l.length : Int) + 1 by omega, Int.add_mul, Int.one_mul]
    omega
theorem upP_none (v : Int) : ∀ (l : List Int), (∀ x ∈ l, x ≤ v) → (l.map (upG v)).sum = 0
  | [], _ => rfl
  | x :: l, h => by
    rw [List.map_cons, List.sum_cons, upP_none v l (fun y hy => h y (List.mem_cons_of_mem _ hy)), upG]
    have := h x List.mem_cons_self
    split <;> omega
/-- No k columns have more than the k greatest. -/
theorem top_most (c : List Int) (T : Nat → Bool) (k : Nat) (hk : (k : Int) = S c.length (on T fun _ => 1)) (hk1 : 1 ≤ k) (hkC : k ≤ c.length) : S c.length (on T fun x => c.getD x 0) ≤ ((sortD c).take k).sum := by
  have hl := sortD_len c
  have hlt : k - 1 < (sortD c).length := by omega
  obtain ⟨v, hv⟩ : ∃ v, v = (sortD c)[k - 1] := ⟨_, rfl⟩
  have hd := List.pairwise_iff_getElem.1 (sortD_desc c)
  have h1 : ((sortD c).take k).sum = k * v + ((sortD c).map (upG v)).sum := by
    rw [← List.take_append_drop k (sortD c), List.map_append, List.sum_append, upP_all v ((sortD c).take k), upP_none v ((sortD c).drop k)]
    · have : ((sortD c).take k).length = k := by rw [List.length_take]; omega
      rw [this, List.take_append_of_le_length (by omega), List.take_of_length_le (by omega)]; omega
    · intro x hx
      obtain ⟨i, hi, rfl⟩ := List.getElem_of_mem hx
      rw [List.length_drop] at hi
      rw [List.getElem_drop, hv]
      exact hd (k - 1) (k + i) hlt (by omega) (by omega)
    · intro x hx
      obtain ⟨i, hi, rfl⟩ := List.getElem_of_mem hx
      rw [List.length_take] at hi
      rw [List.getElem_take, hv]
      by_cases e : i = k - 1
      · subst e; exact Int.le_refl _
      · exact hd i (k - 1) (by omega) hlt (by omega)
  rw [h1, perm_sum ((sortD_perm c).map (upG v)), map_S, hk]
  have h2 : S c.length (on T fun _ => 1) * v = S c.length (on T fun _ => v) := by
    clear h1 hk hv hlt hkC
    generalize c.length = n
    induction n with
    | zero => rw [S, S, Int.zero_mul]
    | succ n ih =>
      rw [S, S, Int.add_mul, ih]
      congr 1
      unfold on
      split <;> simp
  rw [h2, ← S_add]
  refine S_le _ fun x _ => ?_
  dsimp only [on, upG]
  split <;> split <;> omega

/-- The sum of the elements that are marked. -/
def msum : List Bool → List Int → Int
  | b :: bs, x :: l => (if b then x else 0) + msum bs l
  | _, _ => 0
def mcnt : List Bool → Int
  | [] => 0
  | b :: bs => (if b then 1 else 0) + mcnt bs
theorem marks_perm {a b : List Int} (h : a.Perm b) : ∀ bs : List Bool, bs.length = a.length → ∃ bs' : List Bool, bs'.length = b.length ∧ msum bs' b = msum bs a ∧ mcnt bs' = mcnt bs := by
  induction h with
  | nil => intro bs h; exact ⟨bs, h, rfl, rfl⟩
  | cons x _ ih =>
    intro bs h
    cases bs with
    | nil => simp at h
    | cons y bs =>
      obtain ⟨bs', h1, h2, h3⟩ := ih bs (by simpa using h)
      exact ⟨y :: bs', by simpa using h1, by rw [msum, msum, h2], by rw [mcnt, mcnt, h3]⟩
  | swap x y l =>
    intro bs h
    match bs, h with
    | p :: q :: bs, h => exact ⟨q :: p :: bs, by simpa using h, by simp only [msum]; omega, by simp only [mcnt]; omega⟩
  | trans _ _ h1 h2 =>
    intro bs h
    obtain ⟨b1, a1, a2, a3⟩ := h1 bs h
    obtain ⟨b2, c1, c2, c3⟩ := h2 b1 a1
    exact ⟨b2, c1, c2.trans a2, c3.trans a3⟩
theorem marks_take : ∀ (l : List Int) (k : Nat), k ≤ l.length → ∃ bs : List Bool, bs.length = l.length ∧ msum bs l = (l.take k).sum ∧ mcnt bs = k
  | [], k, h => ⟨[], rfl, by simp [msum], by simp at h; subst h; rfl⟩
  | x :: l, 0, _ => by
    obtain ⟨bs, h1, h2, h3⟩ := marks_take l 0 (Nat.zero_le _)
    exact ⟨false :: bs, by simpa using h1, by simp [msum]; simpa using h2, by simp [mcnt]; simpa using h3⟩
  | x :: l, k + 1, h => by
    obtain ⟨bs, h1, h2, h3⟩ := marks_take l k (by simpa using h)
    exact ⟨true :: bs, by simpa using h1, by simp [msum, h2], by simp [mcnt, h3]; omega⟩
theorem msum_S : ∀ (bs : List Bool) (l : List Int), bs.length = l.length → msum bs l = S l.length (on (fun x => bs.getD x false) fun x => l.getD x 0)
  | [], [], _ => rfl
  | [], _ :: _, h => by simp at h
  | _ :: _, [], h => by simp at h
  | b :: bs, x :: l, h => by
    rw [msum, msum_S bs l (by simpa using h), List.length_cons, S_cons]
    rfl
theorem mcnt_S : ∀ (bs : List Bool), mcnt bs = S bs.length (on (fun x => bs.getD x false) fun _ => 1)
  | [] => rfl
  | b :: bs => by
    rw [mcnt, mcnt_S bs, List.length_cons, S_cons]
    rfl
/-- Some k columns have as much as the k greatest. -/
theorem top_some (c : List Int) (k : Nat) (hk : k ≤ c.length) : ∃ T : Nat → Bool, S c.length (on T fun _ => 1) = k ∧ S c.length (on T fun x => c.getD x 0) = ((sortD c).take k).sum := by
  obtain ⟨bs, h1, h2, h3⟩ := marks_take (sortD c) k (by rw [sortD_len]; exact hk)
  obtain ⟨bs', g1, g2, g3⟩ := marks_perm (sortD_perm c) bs h1
  exact ⟨fun x => bs'.getD x false, by rw [← g1, ← mcnt_S, g3, h3], by rw [← msum_S _ _ g1, g2, h2]⟩

/-- m is an image with these sums. -/
structure ImgF (r c : List Int) (m : Nat → Nat → Int) : Prop where
  cell : ∀ y x, y < r.length → x < c.length → m y x = 0 ∨ m y x = 1
  row : ∀ y, y < r.length → S c.length (m y) = r.getD y 0
  col : ∀ x, x < c.length → S r.length (fun y => m y x) = c.getD x 0
def HasImg (r c : List Int) : Prop := ∃ m, ImgF r c m

theorem firstB_none : ∀ (l : List (Int × Int)) (k : Int), 0 ≤ k → (firstB l k = -1 ↔ ∀ b ∈ l, b.1 ≤ b.2)
  | [], _, _ => by simp [firstB]
  | b :: l, k, h => by
    rw [firstB]
    by_cases e : b.2 - b.1 < 0
    · rw [if_pos e]
      constructor
      · intro h'; omega
      · intro h'; have := h' b List.mem_cons_self; omega
    · rw [if_neg e, firstB_none l (k + 1) (by omega)]
      constructor
      · intro h' x hx
        rcases List.mem_cons.1 hx with rfl | hx
        · omega
        · exact h' x hx
      · intro h' x hx; exact h' x (List.mem_cons_of_mem _ hx)
theorem boundsL_at {r c : List Int} {i : Nat} (h : i < (boundsL r c).length) : (boundsL r c)[i] = (((sortD c).take (i + 1)).sum, ((conjL r c.length).take (i + 1)).sum) := tabB_at h
theorem existsOf_iff (r c : List Int) : existsOf r c = true ↔ sumsOk r c = true ∧ ∀ k, 1 ≤ k → k ≤ c.length → ((sortD c).take k).sum ≤ S r.length fun y => min (r.getD y 0) k := by
  unfold existsOf worstOf
  rw [Bool.and_eq_true, decide_eq_true_eq]
  refine and_congr_right fun hs => ?_
  rw [if_pos hs]
  obtain ⟨-, -, hrb, -, -⟩ := sumsOk_yes hs
  have hr : ∀ x ∈ r, 0 ≤ x := fun x hx => by
    rw [List.any_eq_false] at hrb
    have := hrb x hx
    simp only [badB, Bool.or_eq_true, decide_eq_true_eq, not_or] at this
    omega
  have hm : ∀ k, k ≤ c.length → ((conjL r c.length).take k).sum = S r.length fun y => min (r.getD y 0) k := fun k hk => by
    rw [← most_sum hr k hk, map_S]
  rw [show (firstB (boundsL r c) 0 + 1 = 0) ↔ firstB (boundsL r c) 0 = -1 by omega, firstB_none _ _ (Int.le_refl _)]
  constructor
  · intro h k hk1 hk2
    have := h ((boundsL r c)[k - 1]'(by rw [boundsL_len]; omega)) (List.getElem_mem _)
    rw [boundsL_at, show k - 1 + 1 = k by omega] at this
    rw [← hm k hk2]; exact this
  · intro h b hb
    obtain ⟨i, hi, rfl⟩ := List.getElem_of_mem hb
    have hi' : i < c.length := by rw [boundsL_len] at hi; exact hi
    have := h (i + 1) (by omega) (by omega)
    rw [boundsL_at]
    rw [← hm (i + 1) (by omega)] at this; exact this

theorem kc_row (C : Nat) (a : Bool) (O : Nat → Bool) : S C (fun x => kc a (O x) 1 0) = if a then S C (on (fun x => !O x) fun _ => 1) else 0 := by
  cases a with
  | true => rw [if_pos rfl]; exact S_congr C fun x _ => by cases e : O x <;> simp [kc, on, e]
  | false => rw [if_neg (by decide), S_congr C (g := fun _ => 0) (fun x _ => by cases O x <;> simp [kc]), S_zero]
theorem on_not (C : Nat) (O : Nat → Bool) (f : Nat → Int) : S C (on O f) + S C (on (fun x => !O x) f) = S C f := by
  rw [← S_add]
  exact S_congr C fun x _ => by cases e : O x <;> simp [on, e]
theorem count_range (C : Nat) (T : Nat → Bool) : 0 ≤ S C (on T fun _ => 1) ∧ S C (on T fun _ => 1) ≤ C := by
  induction C with
  | zero => simp [S]
  | succ n ih => rw [S]; dsimp only [on] at ih ⊢; split <;> omega
theorem count_zero {C : Nat} {T : Nat → Bool} (h : S C (on T fun _ => 1) = 0) (f : Nat → Int) : S C (on T f) = 0 := by
  induction C with
  | zero => rfl
  | succ n ih =>
    rw [S] at h ⊢
    have h1 := (count_range n T).1
    cases ht : T n with
    | true => simp [on, ht] at h h1; omega
    | false => simp [on, ht] at h ⊢; exact ih h
/-- Where the inequalities hold there is an image. -/
theorem img_of_exists {r c : List Int} (h : existsOf r c = true) : HasImg r c := by
  obtain ⟨hs, hk⟩ := (existsOf_iff r c).1 h
  obtain ⟨hr, hc, hrb, hcb, hsum⟩ := sumsOk_yes hs
  have ht : (S r.length fun y => r.getD y 0) = S c.length fun x => c.getD x 0 := by rw [← sum_S, ← sum_S]; exact hsum
  have hr0 : ∀ y, y < r.length → 0 ≤ r.getD y 0 := fun y hy => by
    rw [List.getD_eq_getElem?_getD, List.getElem?_eq_getElem hy, Option.getD_some]
    rw [List.any_eq_false] at hrb
    have := hrb _ (List.getElem_mem hy)
    simp only [badB, Bool.or_eq_true, decide_eq_true_eq, not_or] at this
    omega
  obtain ⟨m, h1, h2, h3⟩ := exists_between r.length c.length (fun y => r.getD y 0) (fun x => c.getD x 0) ht _ (fun _ _ => 0) (fun _ _ => 1) (Nat.le_refl _) (fun y x _ _ => ⟨.inl rfl, .inr rfl, by decide⟩) (fun L O => by
    unfold over
    obtain ⟨n0, n1⟩ := count_range c.length (fun x => !O x)
    obtain ⟨k, hkk⟩ : ∃ k : Nat, (k : Int) = S c.length (on (fun x => !O x) fun _ => 1) := ⟨(S c.length (on (fun x => !O x) fun _ => 1)).toNat, by omega⟩
    have htop : S c.length (on (fun x => !O x) fun x => c.getD x 0) ≤ S r.length fun y => min (r.getD y 0) k := by
      by_cases e : k = 0
      · rw [count_zero (by omega)]
        exact S_nonneg _ fun y hy => by have := hr0 y hy; omega
      · exact Int.le_trans (top_most c _ k hkk (by omega) (by omega)) (hk k (by omega) (by omega))
    have hO := on_not c.length O fun x => c.getD x 0
    have hcell : (S r.length fun y => S c.length fun x => kc (L y) (O x) 1 0) = S r.length (on L fun _ => k) := S_congr _ fun y _ => by rw [kc_row, ← hkk]; rfl
    rw [hcell]
    have hrow : S r.length (on L fun y => r.getD y 0) - S r.length (on L fun _ => (k : Int)) ≤ (S r.length fun y => r.getD y 0) - S r.length fun y => min (r.getD y 0) k := by
      rw [← S_sub, ← S_sub]
      refine S_le _ fun y _ => ?_
      dsimp only [on]
      split <;> omega
    omega)
  exact ⟨m, fun y x hy hx => by have := h1 y x hy hx; omega, h2, h3⟩
theorem cell_le {n : Nat} {f : Nat → Int} (h : ∀ i, i < n → f i = 0 ∨ f i = 1) : 0 ≤ S n f ∧ S n f ≤ n := by
  induction n with
  | zero => simp [S]
  | succ n ih =>
    have := ih fun i hi => h i (by omega)
    have := h n (by omega)
    rw [S]; omega
/-- The sums of an image are sums, and the inequalities hold. -/
theorem exists_of_img {r c : List Int} (hr : 1 ≤ r.length ∧ r.length ≤ 5) (hc : 1 ≤ c.length ∧ c.length ≤ 5) (h : HasImg r c) : existsOf r c = true := by
  obtain ⟨m, hm⟩ := h
  have hs : sumsOk r c = true := by
    unfold sumsOk sizeOk
    simp only [Bool.and_eq_true, decide_eq_true_eq, Bool.not_eq_true', beq_iff_eq]
    refine ⟨⟨⟨⟨by omega, by omega⟩, any_no fun y hy => ?_⟩, any_no fun x hx => ?_⟩, ?_⟩
    · have h1 := hm.row y hy
      rw [List.getD_eq_getElem?_getD, List.getElem?_eq_getElem hy, Option.getD_some] at h1
      have h2 := cell_le (f := m y) (n := c.length) fun x hx => hm.cell y x hy hx
      rw [← h1, badB, decide_eq_false (by omega), decide_eq_false (by omega)]; rfl
    · have h1 := hm.col x hx
      rw [List.getD_eq_getElem?_getD, List.getElem?_eq_getElem hx, Option.getD_some] at h1
      have h2 := cell_le (f := fun y => m y x) (n := r.length) fun y hy => hm.cell y x hy hx
      rw [← h1, badB, decide_eq_false (by omega), decide_eq_false (by omega)]; rfl
    · rw [sum_S, sum_S, ← S_congr _ hm.row, S_swap]
      exact S_congr _ hm.col
  refine (existsOf_iff r c).2 ⟨hs, fun k hk1 hk2 => ?_⟩
  obtain ⟨T, h1, h2⟩ := top_some c k hk2
  rw [← h2, S_congr c.length (g := fun x => S r.length fun y => if T x then m y x else 0) (fun x hx => by
    dsimp only [on]
    by_cases e : T x = true
    · rw [if_pos e, ← hm.col x hx]; exact S_congr _ fun y _ => by rw [if_pos e]
    · rw [if_neg e, S_congr r.length (g := fun _ => 0) (fun y _ => by rw [if_neg e]), S_zero]), S_swap]
  refine S_le _ fun y hy => ?_
  have a1 : (S c.length fun x => if T x then m y x else 0) ≤ S c.length (m y) := S_le _ fun x hx => by
    have := hm.cell y x hy hx
    split <;> omega
  have a2 : (S c.length fun x => if T x then m y x else 0) ≤ S c.length (on T fun _ => 1) := S_le _ fun x hx => by
    have := hm.cell y x hy hx
    dsimp only [on]
    split <;> omega
  rw [hm.row y hy] at a1
  rw [h1] at a2
  omega
end Go.Proofs.YtcliiefedmiokaaGreat
/-
  All images with given sums, row by row; the least one; what a row of one can be.
-/
namespace Go.Proofs.YtcliiefedmiokaaGreat
open Go.RowKit Mx

/-- All rows of so many cells with so many black ones, in order. -/
def rowsLn : Nat → Int → List (List Int)
  | 0, k => if k = 0 then [[]] else []
  | n + 1, k => (if 0 ≤ k then (rowsLn n k).map (0 :: ·) else []) ++ if 1 ≤ k then (rowsLn n (k - 1)).map (1 :: ·) else []
/-- A row of n cells, a of them black. -/
def RowOf (n : Nat) (a : Int) (row : List Int) : Prop := row.length = n ∧ (∀ x ∈ row, x = 0 ∨ x = 1) ∧ row.sum = a
theorem sum_nonneg01 : ∀ (l : List Int), (∀ x ∈ l, x = 0 ∨ x = 1) → 0 ≤ l.sum
  | [], _ => Int.le_refl _
  | x :: l, h => by
    have := sum_nonneg01 l fun y hy => h y (List.mem_cons_of_mem _ hy)
    have := h x List.mem_cons_self
    rw [List.sum_cons]; omega
theorem mem_rowsL : ∀ (n : Nat) (k : Int) (row : List Int), row ∈ rowsLn n k ↔ RowOf n k row
  | 0, k, row => by
    unfold rowsLn RowOf
    by_cases h : k = 0
    · rw [if_pos h, List.mem_singleton]
      constructor
      · rintro rfl; exact ⟨rfl, by simp, by simp [h]⟩
      · rintro ⟨h1, -, -⟩; exact List.eq_nil_of_length_eq_zero h1
    · rw [if_neg h]
      constructor
      · intro h'; simp at h'
      · rintro ⟨h1, -, h3⟩
        rw [List.eq_nil_of_length_eq_zero h1] at h3; exact absurd h3.symm h
  | n + 1, k, row => by
    unfold rowsLn
    rw [List.mem_append]
    constructor
    · rintro (h | h)
      · by_cases h0 : 0 ≤ k
        · rw [if_pos h0, List.mem_map] at h
          obtain ⟨r, hr, rfl⟩ := h
          obtain ⟨h1, h2, h3⟩ := (mem_rowsL n k r).1 hr
          exact ⟨by simp [h1], fun x hx => by rcases List.mem_cons.1 hx with rfl | hx; exact .inl rfl; exact h2 x hx, by simp [h3]⟩
        · rw [if_neg h0] at h; simp at h
      · by_cases h0 : 1 ≤ k
        · rw [if_pos h0, List.mem_map] at h
          obtain ⟨r, hr, rfl⟩ := h
          obtain ⟨h1, h2, h3⟩ := (mem_rowsL n (k - 1) r).1 hr
          exact ⟨by simp [h1], fun x hx => by rcases List.mem_cons.1 hx with rfl | hx; exact .inr rfl; exact h2 x hx, by simp [h3]; omega⟩
        · rw [if_neg h0] at h; simp at h
    · rintro ⟨h1, h2, h3⟩
      cases row with
      | nil => simp at h1
      | cons x r =>
        have hr : ∀ y ∈ r, y = 0 ∨ y = 1 := fun y hy => h2 y (List.mem_cons_of_mem _ hy)
        have hn := sum_nonneg01 r hr
        rw [List.sum_cons] at h3
        rcases h2 x List.mem_cons_self with rfl | rfl
        · left
          rw [if_pos (by omega), List.mem_map]
          exact ⟨r, (mem_rowsL n k r).2 ⟨by simpa using h1, hr, by omega⟩, rfl⟩
        · right
          rw [if_pos (by omega), List.mem_map]
          exact ⟨r, (mem_rowsL n (k - 1) r).2 ⟨by simpa using h1, hr, by omega⟩, rfl⟩
theorem rowOf_cell {n : Nat} {a : Int} {row : List Int} (h : RowOf n a row) {x : Nat} (hx : x < n) : row.getD x 0 = 0 ∨ row.getD x 0 = 1 := by
  rw [List.getD_eq_getElem?_getD, List.getElem?_eq_getElem (by rw [h.1]; exact hx), Option.getD_some]
  exact h.2.1 _ (List.getElem_mem _)
theorem rowOf_tab {n : Nat} {f : Nat → Int} (h : ∀ x, x < n → f x = 0 ∨ f x = 1) : RowOf n (S n f) (tabL n f) := by
  refine ⟨tabL_len _ _, fun x hx => ?_, ?_⟩
  · obtain ⟨i, hi, rfl⟩ := List.getElem_of_mem hx
    rw [tabL_at]; exact h i (by rw [tabL_len] at hi; exact hi)
  · rw [sum_S, tabL_len]; exact S_congr _ fun i hi => tabL_getD hi
theorem rowOf_self {n : Nat} {a : Int} {row : List Int} (h : RowOf n a row) : row = tabL n fun x => row.getD x 0 := by
  rw [← h.1]; exact (tabL_self row).symm

/-- There is an image for the rows that are left, of which there may be none. -/
def restB (r c : List Int) : Bool := if r = [] then !c.any (badB 0) else existsOf r c
theorem img_nil (c : List Int) : HasImg [] c ↔ ∀ x, x < c.length → c.getD x 0 = 0 := by
  constructor
  · rintro ⟨m, hm⟩ x hx; exact (hm.col x hx).symm
  · intro h; exact ⟨fun _ _ => 0, fun y x hy => absurd hy (Nat.not_lt_zero _), fun y hy => absurd hy (Nat.not_lt_zero _), fun x hx => (h x hx).symm⟩
theorem restB_iff {r c : List Int} (hr : r.length ≤ 5) (hc : 1 ≤ c.length ∧ c.length ≤ 5) : restB r c = true ↔ HasImg r c := by
  unfold restB
  by_cases h : r = []
  · rw [if_pos h, h, img_nil]
    simp only [Bool.not_eq_true', List.any_eq_false]
    constructor
    · intro h1 x hx
      rw [List.getD_eq_getElem?_getD, List.getElem?_eq_getElem hx, Option.getD_some]
      have := h1 _ (List.getElem_mem hx)
      simp only [badB, Bool.or_eq_true, decide_eq_true_eq, not_or] at this
      omega
    · intro h1 x hx
      obtain ⟨i, hi, rfl⟩ := List.getElem_of_mem hx
      have := h1 i hi
      rw [List.getD_eq_getElem?_getD, List.getElem?_eq_getElem hi, Option.getD_some] at this
      simp [badB, this]
  · rw [if_neg h]
    have : 1 ≤ r.length := by cases r with
      | nil => exact absurd rfl h
      | cons x l => simp
    exact ⟨img_of_exists, exists_of_img ⟨this, hr⟩ hc⟩
theorem subL_getD {c row : List Int} {x : Nat} (h : x < c.length) : (subL c row).getD x 0 = c.getD x 0 - row.getD x 0 := tabL_getD h
/-- The first row taken off, and put back. -/
theorem img_cons (a : Int) (r c : List Int) (m : Nat → Nat → Int) : ImgF (a :: r) c m ↔ RowOf c.length a (tabL c.length (m 0)) ∧ ImgF r (subL c (tabL c.length (m 0))) fun y => m (y + 1) := by
  constructor
  · intro h
    have h0 : ∀ x, x < c.length → m 0 x = 0 ∨ m 0 x = 1 := fun x hx => h.cell 0 x (by simp) hx
    have h1 := h.row 0 (by simp)
    refine ⟨?_, fun y x hy hx => ?_, fun y hy => ?_, fun x hx => ?_⟩
    · have := rowOf_tab h0
      rw [h1] at this; simpa using this
    · rw [subL_len] at hx; exact h.cell (y + 1) x (by simpa using hy) hx
    · rw [subL_len]; have := h.row (y + 1) (by simpa using hy); simpa using this
    · rw [subL_len] at hx
      have := h.col x hx
      rw [List.length_cons, S_cons] at this
      rw [subL_getD hx, tabL_getD hx]; omega
  · rintro ⟨h0, h1⟩
    refine ⟨fun y x hy hx => ?_, fun y hy => ?_, fun x hx => ?_⟩
    · cases y with
      | zero => have := rowOf_cell h0 hx; rwa [tabL_getD hx] at this
      | succ y => exact h1.cell y x (by simpa using hy) (by rw [subL_len]; exact hx)
    · cases y with
      | zero =>
        have := h0.2.2
        rw [sum_S, tabL_len] at this
        rw [S_congr c.length (g := fun x => (tabL c.length (m 0)).getD x 0) (fun x hx => (tabL_getD hx).symm), this]; rfl
      | succ y => have := h1.row y (by simpa using hy); rw [subL_len] at this; simpa using this
    · have := h1.col x (by rw [subL_len]; exact hx)
      rw [subL_getD hx, tabL_getD hx] at this
      rw [List.length_cons, S_cons]; omega
theorem hasImg_cons (a : Int) (r c : List Int) : HasImg (a :: r) c ↔ ∃ row, RowOf c.length a row ∧ HasImg r (subL c row) := by
  constructor
  · rintro ⟨m, hm⟩
    obtain ⟨h1, h2⟩ := (img_cons a r c m).1 hm
    exact ⟨_, h1, _, h2⟩
  · rintro ⟨row, h1, m, hm⟩
    refine ⟨fun y x => match y with | 0 => row.getD x 0 | y + 1 => m y x, (img_cons a r c _).2 ⟨?_, ?_⟩⟩
    · rw [← rowOf_self h1]; exact h1
    · rw [← rowOf_self h1]; exact hm

/-- The rows that can stand first. -/
def firstRows (a : Int) (r c : List Int) : List (List Int) := (rowsLn c.length a).filter fun row => restB r (subL c row)
theorem firstRows_ne {a : Int} {r c : List Int} (hr : r.length ≤ 5) (hc : 1 ≤ c.length ∧ c.length ≤ 5) (h : HasImg (a :: r) c) : firstRows a r c ≠ [] := by
  obtain ⟨row, h1, h2⟩ := (hasImg_cons a r c).1 h
  have : row ∈ firstRows a r c := List.mem_filter.2 ⟨(mem_rowsL _ _ _).2 h1, (restB_iff hr (by rw [subL_len]; exact hc)).2 h2⟩
  intro e; rw [e] at this; simp at this
/-- The least row that can stand first. -/
def leastCh : List Int → List Int → List Int
  | [], _ => []
  | a :: r, c => (firstRows a r c).headD []
theorem leastCh_mem {a : Int} {r c : List Int} (hr : r.length ≤ 5) (hc : 1 ≤ c.length ∧ c.length ≤ 5) (h : HasImg (a :: r) c) : leastCh (a :: r) c ∈ firstRows a r c := by
  have := firstRows_ne hr hc h
  show (firstRows a r c).headD [] ∈ firstRows a r c
  cases e : firstRows a r c with
  | nil => exact absurd e this
  | cons x l => exact List.mem_cons_self
theorem leastCh_spec {a : Int} {r c : List Int} (hr : r.length ≤ 5) (hc : 1 ≤ c.length ∧ c.length ≤ 5) (h : HasImg (a :: r) c) : RowOf c.length a (leastCh (a :: r) c) ∧ HasImg r (subL c (leastCh (a :: r) c)) := by
  obtain ⟨h1, h2⟩ := List.mem_filter.1 (leastCh_mem hr hc h)
  exact ⟨(mem_rowsL _ _ _).1 h1, (restB_iff hr (by rw [subL_len]; exact hc)).1 h2⟩

/-- All images with these sums, in order. -/
def allL : List Int → List Int → List (List (List Int))
  | [], _ => [[]]
  | a :: r, c => (rowsLn c.length a).flatMap fun row => if restB r (subL c row) then (allL r (subL c row)).map (row :: ·) else []
theorem flat_first {α β : Type} (p : α → Bool) (f : α → List β) (hf : ∀ x, p x = false → f x = []) : ∀ (l : List α), (l.filter p).headD = (l.filter p).headD ∧ ∀ x r, l.filter p = x :: r → ∃ l', l.flatMap f = f x ++ l'
  | [] => ⟨rfl, fun x r h => by simp at h⟩
  | y :: l => by
    refine ⟨rfl, fun x r h => ?_⟩
    rw [List.filter_cons] at h
    cases hp : p y with
    | true =>
      rw [hp, if_pos rfl] at h
      simp only [List.cons.injEq] at h
      exact ⟨l.flatMap f, by rw [List.flatMap_cons, h.1]⟩
    | false =>
      rw [hp, if_neg (by decide)] at h
      obtain ⟨l', hl⟩ := (flat_first p f hf l).2 x r h
      exact ⟨l', by rw [List.flatMap_cons, hf y hp, List.nil_append, hl]⟩
/-- The first one of all is the one whose rows are the least. -/
theorem all_first : ∀ (r c : List Int), r.length ≤ 5 → (1 ≤ c.length ∧ c.length ≤ 5) → HasImg r c → ∃ l, allL r c = imgL leastCh r c :: l
  | [], c, _, _, _ => ⟨[], rfl⟩
  | a :: r, c, hr, hc, h => by
    rw [List.length_cons] at hr
    have hm := leastCh_mem (by omega) hc h
    obtain ⟨-, h2⟩ := leastCh_spec (by omega) hc h
    obtain ⟨l, hl⟩ := all_first r (subL c (leastCh (a :: r) c)) (by omega) (by rw [subL_len]; exact hc) h2
    have hcons : ∃ q, firstRows a r c = leastCh (a :: r) c :: q := by
      show ∃ q, firstRows a r c = (firstRows a r c).headD [] :: q
      cases e : firstRows a r c with
      | nil => exact absurd e (firstRows_ne (by omega) hc h)
      | cons x q => exact ⟨q, rfl⟩
    obtain ⟨q, hq⟩ := hcons
    obtain ⟨l', hl'⟩ := (flat_first (fun row => restB r (subL c row)) (fun row => if restB r (subL c row) then (allL r (subL c row)).map (row :: ·) else []) (fun x hx => by rw [hx]; simp) (rowsLn c.length a)).2 _ q hq
    have hrest : restB r (subL c (leastCh (a :: r) c)) = true := (List.mem_filter.1 hm).2
    refine ⟨l.map (leastCh (a :: r) c :: ·) ++ l', ?_⟩
    rw [allL, hl', if_pos hrest, hl, imgL]; simp
/-- The rows of an image that is given by its cells. -/
def listF (n C : Nat) (m : Nat → Nat → Int) : List (List Int) := (List.range n).map fun y => tabL C (m y)
theorem listF_succ (n C : Nat) (m : Nat → Nat → Int) : listF (n + 1) C m = tabL C (m 0) :: listF n C fun y => m (y + 1) := by
  unfold listF
  rw [List.range_succ_eq_map, List.map_cons, List.map_map]; rfl
theorem all_complete : ∀ (r c : List Int), r.length ≤ 5 → (1 ≤ c.length ∧ c.length ≤ 5) → ∀ m, ImgF r c m → listF r.length c.length m ∈ allL r c
  | [], c, _, _, m, _ => by simp [listF, allL]
  | a :: r, c, hr, hc, m, h => by
    rw [List.length_cons] at hr
    obtain ⟨h1, h2⟩ := (img_cons a r c m).1 h
    have ih := all_complete r _ (by omega) (by rw [subL_len]; exact hc) _ h2
    rw [subL_len] at ih
    rw [List.length_cons, listF_succ, allL, List.mem_flatMap]
    refine ⟨_, (mem_rowsL _ _ _).2 h1, ?_⟩
    rw [if_pos ((restB_iff (by omega) (by rw [subL_len]; exact hc)).2 ⟨_, h2⟩)]
    exact List.mem_map.2 ⟨_, ih, rfl⟩
theorem all_sound : ∀ (r c : List Int), r.length ≤ 5 → (1 ≤ c.length ∧ c.length ≤ 5) → HasImg r c → ∀ l ∈ allL r c, l.length = r.length ∧ (∀ q ∈ l, q.length = c.length) ∧ ImgF r c fun y x => (l.getD y []).getD x 0
  | [], c, _, _, h, l, hl => by
    simp only [allL, List.mem_singleton] at hl
    subst hl
    exact ⟨rfl, by simp, fun y x hy => absurd hy (Nat.not_lt_zero _), fun y hy => absurd hy (Nat.not_lt_zero _), fun x hx => ((img_nil c).1 h x hx).symm⟩
  | a :: r, c, hr, hc, h, l, hl => by
    rw [List.length_cons] at hr
    rw [allL, List.mem_flatMap] at hl
    obtain ⟨row, hrow, hl⟩ := hl
    have hR := (mem_rowsL _ _ _).1 hrow
    by_cases hb : restB r (subL c row) = true
    · rw [if_pos hb, List.mem_map] at hl
      obtain ⟨l', hl', rfl⟩ := hl
      have hc' : 1 ≤ (subL c row).length ∧ (subL c row).length ≤ 5 := by rw [subL_len]; exact hc
      obtain ⟨h1, h2, h3⟩ := all_sound r _ (by omega) hc' ((restB_iff (by omega) hc').1 hb) l' hl'
      refine ⟨by simp [h1], fun q hq => ?_, (img_cons a r c _).2 ⟨?_, ?_⟩⟩
      · rcases List.mem_cons.1 hq with rfl | hq
        · exact hR.1
        · rw [h2 q hq, subL_len]
      · rw [show tabL c.length (fun x => ((row :: l').getD 0 []).getD x 0) = row from (rowOf_self hR).symm]; exact hR
      · rw [show tabL c.length (fun x => ((row :: l').getD 0 []).getD x 0) = row from (rowOf_self hR).symm]; exact h3
    · rw [if_neg hb] at hl; simp at hl

/-- Row y left out. -/
def delF {α : Type} (m : Nat → α) (y i : Nat) : α := if i < y then m i else m (i + 1)
theorem S_del (f : Nat → Int) (y : Nat) : ∀ n, y ≤ n → S (n + 1) f = S n (delF f y) + f y
  | 0, h => by obtain rfl : y = 0 := by omega
               rw [S, S, S]
  | n + 1, h => by
    by_cases e : y = n + 1
    · subst e
      rw [S, S_congr (n + 1) (f := f) (g := delF f (n + 1)) (fun i hi => by rw [delF, if_pos hi])]
    · rw [S, S_del f y n (by omega), S, delF, if_neg (by omega)]; omega
theorem erase_getD (r : List Int) (y i : Nat) : (r.eraseIdx y).getD i 0 = delF (fun i => r.getD i 0) y i := by
  unfold delF
  simp only [List.getD_eq_getElem?_getD, List.getElem?_eraseIdx]
  split <;> rfl
/-- An image without its row y. -/
theorem img_del {r c : List Int} {m : Nat → Nat → Int} {y : Nat} (hy : y < r.length) : ImgF r c m ↔ RowOf c.length (r.getD y 0) (tabL c.length (m y)) ∧ ImgF (r.eraseIdx y) (subL c (tabL c.length (m y))) (delF m y) := by
  have hl : (r.eraseIdx y).length = r.length - 1 := List.length_eraseIdx_of_lt hy
  obtain ⟨n, hn⟩ : ∃ n, r.length = n + 1 := ⟨r.length - 1, by omega⟩
  have hcol : ∀ x, S r.length (fun i => m i x) = S n (fun i => delF m y i x) + m y x := fun x => by
    rw [hn, S_del (fun i => m i x) y n (by omega)]
    congr 1
    exact S_congr _ fun i _ => by unfold delF; split <;> rfl
  constructor
  · intro h
    refine ⟨?_, fun i x hi hx => ?_, fun i hi => ?_, fun x hx => ?_⟩
    · have := rowOf_tab (n := c.length) (f := m y) fun x hx => h.cell y x hy hx
      rw [h.row y hy] at this; exact this
    · rw [subL_len] at hx
      unfold delF
      split
      · exact h.cell i x (by omega) hx
      · exact h.cell (i + 1) x (by omega) hx
    · rw [subL_len, erase_getD]
      unfold delF
      split
      · exact h.row i (by omega)
      · exact h.row (i + 1) (by omega)
    · rw [subL_len] at hx
      have := h.col x hx
      rw [hcol] at this
      rw [subL_getD hx, tabL_getD hx, hl, hn, Nat.add_sub_cancel]; omega
  · rintro ⟨h0, h1⟩
    have hcell : ∀ i, i < r.length → i ≠ y → ∃ j, j < (r.eraseIdx y).length ∧ m i = delF m y j ∧ r.getD i 0 = (r.eraseIdx y).getD j 0 := fun i hi hne => by
      by_cases e : i < y
      · exact ⟨i, by omega, by rw [delF, if_pos e], by rw [erase_getD, delF, if_pos e]⟩
      · refine ⟨i - 1, by omega, by rw [delF, if_neg (by omega), show i - 1 + 1 = i by omega], by rw [erase_getD, delF, if_neg (by omega), show i - 1 + 1 = i by omega]⟩
    refine ⟨fun i x hi hx => ?_, fun i hi => ?_, fun x hx => ?_⟩
    · by_cases e : i = y
      · subst e; have := rowOf_cell h0 hx; rwa [tabL_getD hx] at this
      · obtain ⟨j, hj, hm, -⟩ := hcell i hi e
        rw [hm]; exact h1.cell j x hj (by rw [subL_len]; exact hx)
    · by_cases e : i = y
      · subst e
        have := h0.2.2
        rw [sum_S, tabL_len] at this
        rw [← this]; exact S_congr _ fun x hx => (tabL_getD hx).symm
      · obtain ⟨j, hj, hm, hrj⟩ := hcell i hi e
        have := h1.row j hj
        rw [subL_len] at this
        rw [hm, hrj]; exact this
    · have := h1.col x (by rw [subL_len]; exact hx)
      rw [subL_getD hx, tabL_getD hx, hl, hn, Nat.add_sub_cancel] at this
      rw [hcol]; omega
/-- What can stand in row y. -/
def rowsAtL (r c : List Int) (y : Nat) : List (List Int) := (rowsLn c.length (r.getD y 0)).filter fun row => restB (r.eraseIdx y) (subL c row)
theorem rowsAt_zero (a : Int) (r c : List Int) : rowsAtL (a :: r) c 0 = firstRows a r c := rfl
/-- A cell is so in one of the images exactly if it is so in one of the rows. -/
theorem place_iff {r c : List Int} {y x : Nat} (v : Int) (hr : r.length ≤ 5) (hc : 1 ≤ c.length ∧ c.length ≤ 5) (hy : y < r.length) (h : HasImg r c) :
    ((allL r c).any fun m => (m.getD y []).getD x 0 == v) = (rowsAtL r c y).any fun row => row.getD x 0 == v := by
  have hc' : ∀ row, 1 ≤ (subL c row).length ∧ (subL c row).length ≤ 5 := fun row => by rw [subL_len]; exact hc
  have hl : (r.eraseIdx y).length ≤ 5 := by rw [List.length_eraseIdx_of_lt hy]; omega
  rw [Bool.eq_iff_iff, List.any_eq_true, List.any_eq_true]
  constructor
  · rintro ⟨m, hm, hv⟩
    obtain ⟨h1, h2, h3⟩ := all_sound r c hr hc h m hm
    obtain ⟨g1, g2⟩ := (img_del hy).1 h3
    have he : m.getD y [] = tabL c.length fun x => (m.getD y []).getD x 0 := by
      have : (m.getD y []).length = c.length := h2 _ (by rw [List.getD_eq_getElem?_getD, List.getElem?_eq_getElem (by omega), Option.getD_some]; exact List.getElem_mem _)
      rw [← this]; exact (tabL_self _).symm
    refine ⟨m.getD y [], List.mem_filter.2 ⟨(mem_rowsL _ _ _).2 (by rw [he]; exact g1), (restB_iff hl (hc' _)).2 ?_⟩, hv⟩
    rw [he]; exact ⟨_, g2⟩
  · rintro ⟨row, hrow, hv⟩
    obtain ⟨g1, g2⟩ := List.mem_filter.1 hrow
    have hR := (mem_rowsL _ _ _).1 g1
    obtain ⟨m', hm'⟩ := (restB_iff hl (hc' _)).1 g2
    let m : Nat → Nat → Int := fun i x => if i < y then m' i x else if i = y then row.getD x 0 else m' (i - 1) x
    have e1 : tabL c.length (m y) = row := by
      rw [show m y = fun x => row.getD x 0 from funext fun x => by simp [m]]
      exact (rowOf_self hR).symm
    have e2 : ∀ i, delF m y i = m' i := fun i => by
      unfold delF
      funext x
      split
      · rename_i hi; simp [m, hi]
      · rename_i hi; simp only [m]; rw [if_neg (by omega), if_neg (by omega), Nat.add_sub_cancel]
    have hI : ImgF r c m := (img_del hy).2 ⟨by rw [e1]; exact hR, by rw [e1, show delF m y = m' from funext e2]; exact hm'⟩
    refine ⟨listF r.length c.length m, all_complete r c hr hc m hI, ?_⟩
    have : (listF r.length c.length m).getD y [] = row := by
      rw [List.getD_eq_getElem?_getD]
      simp only [listF, List.getElem?_map, List.getElem?_range hy, Option.map_some, Option.getD_some, e1]
    rw [this]; exact hv
end Go.Proofs.YtcliiefedmiokaaGreat
/-
  slices.IndexFunc, ContainsFunc, DeleteFunc over rows.
-/
namespace Go.Proofs.YtcliiefedmiokaaGreat
open Go.RowKit Go.Shelf

/-- What the function value answers of a row that meets ok, in whatever world has grown out of W. -/
def RowPred (g : Nat) (cb : Array Value) (ok : List Int → Prop) (p : List Int → Bool) (W : World) : Prop :=
  ∀ (r : List Int) (u : Value) (w : World), ok r → Below W.heap.size W w → InRow w u r → Calls Tryz.prog g (#[u] ++ cb) w fun e w' => e = .returned (.bool (p r)) ∧ Below w.heap.size w w'
theorem rowPred_mono {g : Nat} {cb : Array Value} {ok : List Int → Prop} {p : List Int → Bool} {W W' : World} (h : RowPred g cb ok p W) (hb : Below W.heap.size W W') : RowPred g cb ok p W' :=
  fun r u w ho hw hr => h r u w ho (hb.trans (hw.mono hb.size)) hr
/-- The place of the first row at which p holds, or -1. -/
def idxP (p : List Int → Bool) (m : List (List Int)) : Int := if m.findIdx p < m.length then (m.findIdx p : Nat) else -1
theorem idxP_hit {p : List Int → Bool} {m : List (List Int)} {k : Nat} (hk : k < m.length) (h : p m[k] = true) (ha : ∀ t, (ht : t < m.length) → t < k → p m[t] = false) : idxP p m = k := by
  have : m.findIdx p = k := (List.findIdx_eq hk).2 ⟨h, fun j hj => ha j (by omega) hj⟩
  rw [idxP, this, if_pos hk]
theorem idxP_miss {p : List Int → Bool} {m : List (List Int)} (ha : ∀ t, (ht : t < m.length) → p m[t] = false) : idxP p m = -1 := by
  rw [idxP, if_neg]
  intro h
  have := List.findIdx_getElem (w := h)
  rw [ha _ h] at this; cases this
theorem idxP_any (p : List Int → Bool) (m : List (List Int)) : decide (0 ≤ idxP p m) = m.any p := by
  cases h : m.any p with
  | true =>
    rw [List.any_eq_true] at h
    obtain ⟨x, hx, hp⟩ := h
    have := List.findIdx_lt_length_of_exists ⟨x, hx, hp⟩
    rw [idxP, if_pos this]; simp
  | false =>
    rw [List.any_eq_false] at h
    rw [idxP_miss fun t ht => by simpa using h _ (List.getElem_mem ht)]; rfl
set_option maxHeartbeats 1000000 in
theorem idxRows_any (v : Value) (m : List (List Int)) (g : Nat) (cb : Array Value) (ok : List Int → Prop) (p : List Int → Bool) (w : World) (eg : ∀ args w, (callFunc g args).run Tryz.prog w = .ok (.enter g args) w) (hin : InMat w v m) (hok : ∀ r ∈ m, ok r) (hp : RowPred g cb ok p w) :
    Calls Tryz.prog 101 #[v, .func (.func g) #[] cb] w fun e w' => e = .returned (.int .i64 (idxP p m)) ∧ Below w.heap.size w w' := by
  obtain ⟨a, c, rfl, hm, hpl⟩ := hin
  unfold maxLen at hm
  have HP := hide hp; have HOK := hide hok
  clear hp hok
  by_cases h0 : m.length = 0
  · have hr : m = [] := List.eq_nil_of_length_eq_zero h0
    subst hr
    clear hpl h0 hm
    go_enter Tryz.func101, Tryz.ntmps101
    go_wp2
    go_loop [8] (fun i => i = .int .i64 0) (fun _ => 0)
    case atStart => rfl
    case round =>
      obtain rfl := hrel
      go_wp2
      go_ret
      exact ⟨rfl, Below.refl _ _⟩
  · obtain ⟨b, o, rfl, hg, hc⟩ := hpl.resolve_left h0
    have HC := hide hc; have HG := hide hg
    obtain ⟨n, hn⟩ : ∃ n, n = m.length := ⟨_, rfl⟩
    have HN := hide hn
    rw [← hn] at hm ⊢
    clear hpl hc h0 hn hg
    go_enter Tryz.func101, Tryz.ntmps101
    go_wp2
    go_loopw [8] (fun i w' => ∃ k : Nat, k ≤ n ∧ i = .int .i64 k ∧ (∀ t, (h : t < m.length) → t < k → p m[t] = false) ∧ Below w.heap.size w w') (fun i _ => n - (intOf i).toNat)
    case atStart => exact ⟨0, Nat.zero_le _, rfl, fun t _ h => absurd h (Nat.not_lt_zero _), Below.refl _ _⟩
    case round =>
      obtain ⟨k, hk, rfl, hall, hb⟩ := hrel
      have HA := hide hall; have HB := hide hb
      clear hall hb
      by_cases hlt : k < n
      · have hk' : k < m.length := by rw [← HN.out]; exact hlt
        obtain ⟨u, hu, hru⟩ := HC.out k hk'
        have hx := below_cell HB.out HG.out hu
        have HCALL := hide (HP.out m[k] u wr (HOK.out _ (List.getElem_mem hk')) HB.out (inRow_below hru HB.out))
        have HHIT := hide (fun h => idxP_hit (p := p) hk' h HA.out)
        have HST : Hid (p m[k] = false → ∀ t, (h : t < m.length) → t < k + 1 → p m[t] = false) := hide fun h t h1 ht => by
          by_cases e : t = k
          · subst e; exact h
          · exact HA.out t h1 (by omega)
        clear hu hru
        obtain ⟨q, hq⟩ : ∃ q, q = p m[k] := ⟨_, rfl⟩
        rw [← hq] at HCALL HHIT HST
        clear hq
        cases q with
        | true =>
          have HF := hide (HHIT.out rfl); clear HHIT HST
          go_wp2_with (go_at_fn g; refine HCALL.out.mono ?_; rintro e w9 ⟨rfl, hb9⟩; have HB9 := hide (HB.out.trans (hb9.mono HB.out.size)); clear hb9)
          go_ret
          exact ⟨by rw [HF.out]; rfl, HB9.out⟩
        | false =>
          have HS2 := hide (HST.out rfl); clear HST HHIT
          go_wp2_with (go_at_fn g; refine HCALL.out.mono ?_; rintro e w9 ⟨rfl, hb9⟩; have HB9 := hide (HB.out.trans (hb9.mono HB.out.size)); clear hb9)
          go_roundw
          case rel => exact ⟨k + 1, by omega, by go_num, HS2.out, HB9.out⟩
          case measure => simp [intOf]; omega
      · have HY := hide (idxP_miss (p := p) fun t h => HA.out t h (by have := HN.out; omega))
        go_wp2
        go_ret
        exact ⟨by rw [HY.out]; rfl, HB.out⟩
set_option maxHeartbeats 400000 in
theorem containsRows_any (v : Value) (m : List (List Int)) (g : Nat) (cb : Array Value) (ok : List Int → Prop) (p : List Int → Bool) (w : World) (eg : ∀ args w, (callFunc g args).run Tryz.prog w = .ok (.enter g args) w) (hin : InMat w v m) (hok : ∀ r ∈ m, ok r) (hp : RowPred g cb ok p w) :
    Calls Tryz.prog 56 #[v, .func (.func g) #[] cb] w fun e w' => e = .returned (.bool (m.any p)) ∧ Below w.heap.size w w' := by
  have HI := hide (idxRows_any v m g cb ok p w eg hin hok hp)
  have HY := hide (idxP_any p m)
  have hlo : -1 ≤ idxP p m ∧ idxP p m ≤ maxLen := by
    obtain ⟨a, c, -, hm, -⟩ := hin
    unfold idxP
    by_cases h : m.findIdx p < m.length
    · rw [if_pos h]; omega
    · rw [if_neg h]; exact ⟨by omega, by unfold maxLen; omega⟩
  unfold maxLen at hlo
  obtain ⟨q, hq⟩ : ∃ q, q = idxP p m := ⟨_, rfl⟩
  rw [← hq] at HI HY hlo
  rw [← HY.out]
  obtain ⟨hlo, hhi⟩ := hlo
  clear hin hok hp hq eg HY
  go_enter Tryz.func56, Tryz.ntmps56
  go_wp2_with (go_at_call 101; refine HI.out.mono ?_; rintro e w9 ⟨rfl, hb9⟩; have HB9 := hide hb9; clear hb9)
  go_ret
  exact ⟨rfl, HB9.out⟩
end Go.Proofs.YtcliiefedmiokaaGreat
/-
  slices.Delete at integers, of a slice that the call owns; owned slices cut, and many of their cells written.
-/
namespace Go.Proofs.YtcliiefedmiokaaGreat
open Go.RowKit Go.Shelf

def Tryz.laysDel_ren : Go.Shelf.Ren := ⟨fun | 23 => 102 | n => n, fun | 22 => 30 | 3 => 3 | 4 => 4 | 0 => 0 | n => n, fun | n => n⟩
theorem Tryz.laysDel : Go.Proofs.Lays2.n23 Tryz.prog Tryz.laysDel_ren := {
  mixed := by kernel_rfl
  f23 := Tryz.func102.trans (congrArg some (by kernel_rfl))
  t0 := Tryz.underlying0
  a0 := Tryz.isAgg0
  z0 := Tryz.sizeOf0
  v0 := Tryz.zeroValue0
  t3 := Tryz.underlying3
  a3 := Tryz.isAgg3
  z3 := Tryz.sizeOf3
  v3 := Tryz.zeroValue3
  t4 := Tryz.underlying4
  a4 := Tryz.isAgg4
  z4 := Tryz.sizeOf4
  v4 := Tryz.zeroValue4
  t22 := Tryz.underlying30
  a22 := Tryz.isAgg30
  z22 := Tryz.sizeOf30
  v22 := Tryz.zeroValue30
  i3 := by kernel_rfl }
theorem delete_any (B : Nat) (v : Value) (r : List Int) (y : Nat) (w : World) (hown : w.ownsRow B 3 1 v r.length (ints r)) (hy : y < r.length) :
    Calls Tryz.prog 102 #[v, .int .i64 y, .int .i64 (y + 1 : Nat)] w fun e w' => ∃ u, e = .returned u ∧ w'.ownsRow B 3 1 u (r.eraseIdx y).length (ints (r.eraseIdx y)) ∧ Below B w w' := by
  have hne : v ≠ .slice none 0 0 := by
    rintro rfl
    rcases hown.2 with ⟨-, h0⟩ | ⟨g, cap, cur, h, _⟩
    · omega
    · cases h
  obtain ⟨g, cap, rfl, hb, hlt, hcap, hm, hl, hH⟩ := Lib.holds_of_ownsRow (enc := Value.int .i64) (zs := r) hown hne
  refine (Any.slices_Delete_int Tryz.laysDel g 0 cap y (y + 1) r w hH hcap hm (by omega) (by omega)).mono ?_
  rintro e w' ⟨rfl, q, rfl⟩
  refine ⟨_, rfl, ?_, Lib.below_putRow (Below.refl _ _) hb⟩
  have h := Lib.ownsRow_putRow (enc := Value.int .i64) (zs := r) (q := q) (k := r.length - 1) (ys := r.take y ++ r.drop (y + 1) ++ List.replicate (y + 1 - y) 0) hown (by simp; omega) (by omega)
  have e1 : (r.take y ++ r.drop (y + 1) ++ List.replicate (y + 1 - y) (0 : Int)).take (r.length - 1) = r.eraseIdx y := by
    rw [List.eraseIdx_eq_take_drop_succ, List.take_append_of_le_length (by simp; omega), List.take_of_length_le (by simp; omega)]
  rw [e1] at h
  rw [show (r.eraseIdx y).length = r.length - 1 from List.length_eraseIdx_of_lt hy, show r.length - (y + 1 - y) = r.length - 1 by omega]
  exact h

/-- The first k elements of an owned slice. -/
theorem own_cut {w : World} {base e g n c k : Nat} {xs : List Value} (h : w.ownsRow base e 1 (.slice (some ⟨g, 0, none⟩) n c) n xs) (hk : k ≤ n) : w.ownsRow base e 1 (.slice (some ⟨g, 0, none⟩) k c) k (xs.take k) := by
  rcases h.2 with ⟨e0, _⟩ | ⟨g', cap', cur, e0, hb, hg, hn, hm, hs, ht⟩
  · cases e0
  · cases e0
    refine ⟨by rw [List.length_take]; have := h.1; omega, .inr ⟨_, _, cur, rfl, hb, hg, by omega, hm, hs, ?_⟩⟩
    rw [← ht, List.take_take]; congr 1; omega
/-- Cells of an owned slice written one behind the other. -/
theorem own_setCells {base e g n c : Nat} : ∀ (zs : List Value) (i : Nat) (w : World) (xs : List Value), w.ownsRow base e 1 (.slice (some ⟨g, 0, none⟩) n c) n xs →
    ∃ ys, (w.setCells g i zs).ownsRow base e 1 (.slice (some ⟨g, 0, none⟩) n c) n ys ∧ ys.take i = xs.take i ∧ w.grownBy (w.setCells g i zs) (some g)
  | [], i, w, xs, h => ⟨xs, h, rfl, rfl, rfl, rfl, Nat.le_refl _, fun _ _ _ => rfl⟩
  | z :: zs, i, w, xs, h => by
    obtain ⟨h1, h2⟩ := h.stored i z
    obtain ⟨ys, g1, g2, g3⟩ := own_setCells zs (i + 1) _ _ h1
    refine ⟨ys, g1, ?_, grown_trans h2 g3⟩
    have : (ys.take (i + 1)).take i = ((xs.set i z).take (i + 1)).take i := by rw [g2]
    rw [List.take_take, List.take_take, Nat.min_eq_left (by omega), List.take_set_of_le (by omega)] at this
    exact this
end Go.Proofs.YtcliiefedmiokaaGreat
/-
  slices.DeleteFunc over rows that the call owns; the predicate may make memory.
-/
namespace Go.Proofs.YtcliiefedmiokaaGreat
open Go.RowKit Go.Shelf

/-- A list of rows that lie from lo on. -/
def MatT (w : World) (lo : Nat) (v : Value) (m : List (List Int)) : Prop :=
  ∃ vs : List Value, w.ownsRow lo 30 1 v m.length vs ∧ ∀ i, (h : i < m.length) → w.ownsRow lo 3 1 (vs.getD i undef) m[i].length (ints m[i])
theorem matT_own {w : World} {lo hi : Nat} {v : Value} {m : List (List Int)} (h : OwnMat w lo hi v m) : MatT w lo v m := by
  obtain ⟨vs, h1, -, h3, -⟩ := h
  exact ⟨vs, h1, fun i hi => (h3 i hi).1⟩
theorem inMat_matT {w : World} {lo : Nat} {v : Value} {m : List (List Int)} (h : MatT w lo v m) : InMat w v m := by
  obtain ⟨vs, ho, hr⟩ := h
  rcases ho.2 with ⟨rfl, h0⟩ | ⟨g, cap, cur, rfl, hbg, hg, hc, hm, _⟩
  · exact ⟨none, 0, by rw [h0], by omega, .inl h0⟩
  · refine ⟨_, _, rfl, by omega, .inr ⟨g, 0, rfl, (Array.getElem?_eq_some_iff.1 hg).1, fun i hi => ⟨vs.getD i undef, ?_, inRow_own (hr i hi)⟩⟩⟩
    rw [Nat.zero_add]; exact cell_held ho hi
theorem matT_below {w w' : World} {lo : Nat} {v : Value} {m : List (List Int)} (h : MatT w lo v m) (hb : Below w.heap.size w w') : MatT w' lo v m := by
  obtain ⟨vs, h1, h2⟩ := h
  exact ⟨vs, own_below h1 hb, fun i hi => own_below (h2 i hi) hb⟩
theorem matT_base {w : World} {lo lo' : Nat} {v : Value} {m : List (List Int)} (h : MatT w lo v m) (hl : lo' ≤ lo) : MatT w lo' v m := by
  obtain ⟨vs, h1, h2⟩ := h
  exact ⟨vs, own_base h1 hl, fun i hi => own_base (h2 i hi) hl⟩
theorem matT_kept {w w' : World} {lo B e n : Nat} {v u : Value} {m : List (List Int)} {xs : List Value} (h : MatT w lo v m) (hu : w.ownsRow B e 1 u n xs) (hg : w.grownBy w' u.ownBlock) (h1 : 30 ≠ e) (h2 : 3 ≠ e) : MatT w' lo v m := by
  obtain ⟨vs, g1, g2⟩ := h
  exact ⟨vs, g1.kept hg (own_types g1 hu h1), fun i hi => (g2 i hi).kept hg (own_types (g2 i hi) hu h2)⟩

/-- The places of the first j rows at which p does not hold. -/
def kept (p : List Int → Bool) (m : List (List Int)) (j : Nat) : List Nat := (List.range j).filter fun t => !p (m.getD t [])
theorem kept_yes {p : List Int → Bool} {m : List (List Int)} {j : Nat} (h : p (m.getD j []) = false) : kept p m (j + 1) = kept p m j ++ [j] := by
  unfold kept
  rw [List.range_succ, List.filter_append]; simp only [List.filter_cons, List.filter_nil, h]; rfl
theorem kept_no {p : List Int → Bool} {m : List (List Int)} {j : Nat} (h : p (m.getD j []) = true) : kept p m (j + 1) = kept p m j := by
  unfold kept
  rw [List.range_succ, List.filter_append]; simp only [List.filter_cons, List.filter_nil, h]; simp
theorem kept_len (p : List Int → Bool) (m : List (List Int)) (j : Nat) : (kept p m j).length ≤ j := by
  have := List.length_filter_le (fun t => !p (m.getD t [])) (List.range j)
  simpa [kept] using this
theorem kept_lt {p : List Int → Bool} {m : List (List Int)} {j t : Nat} (h : t ∈ kept p m j) : t < j := by
  have := (List.mem_filter.1 h).1; simpa using this
theorem kept_all {p : List Int → Bool} {m : List (List Int)} : ∀ {j : Nat}, (∀ t, t < j → p (m.getD t []) = false) → kept p m j = List.range j
  | 0, _ => rfl
  | j + 1, h => by rw [kept_yes (h j (Nat.lt_succ_self _)), kept_all fun t ht => h t (by omega), List.range_succ]
theorem map_range_getD {α : Type} (d : α) (l : List α) (n : Nat) (h : n ≤ l.length) : (List.range n).map (fun t => l.getD t d) = l.take n := by
  apply List.ext_getElem
  · simp; omega
  · intro i h1 h2
    simp at h1
    simp [List.getElem?_eq_getElem (show i < l.length by omega)]
theorem kept_map (p : List Int → Bool) (m : List (List Int)) : (kept p m m.length).map (fun t => m.getD t []) = m.filter fun x => !p x := by
  unfold kept
  have h : m = (List.range m.length).map fun t => m.getD t [] := by rw [map_range_getD _ _ _ (Nat.le_refl _)]; simp
  conv => rhs; rw [h, List.filter_map]
  rfl
theorem idxP_spec (p : List Int → Bool) (m : List (List Int)) : (idxP p m = -1 ∧ ∀ t, t < m.length → p (m.getD t []) = false) ∨ ∃ k : Nat, k < m.length ∧ idxP p m = k ∧ p (m.getD k []) = true ∧ ∀ t, t < k → p (m.getD t []) = false := by
  have hg : ∀ t, (ht : t < m.length) → m.getD t [] = m[t] := fun t ht => by rw [List.getD_eq_getElem?_getD, List.getElem?_eq_getElem ht]; rfl
  by_cases h : m.findIdx p < m.length
  · refine .inr ⟨_, h, by rw [idxP, if_pos h], ?_, fun t ht => ?_⟩
    · rw [hg _ h]; exact List.findIdx_getElem (w := h)
    · rw [hg _ (by omega)]
      have := List.not_of_lt_findIdx ht
      simpa using this
  · refine .inl ⟨by rw [idxP, if_neg h], fun t ht => ?_⟩
    rw [hg _ ht]
    cases hp : p m[t] with
    | false => rfl
    | true => exact absurd (List.findIdx_lt_length_of_exists ⟨_, List.getElem_mem ht, hp⟩) h
/-- What the search finds of rows that are struck and kept. -/
theorem delRows_len (p : List Int → Bool) (m : List (List Int)) : (m.filter fun x => !p x).length = (kept p m m.length).length := by rw [← kept_map, List.length_map]

theorem zeroInts_run (w : World) : (zeroValue 30).run Tryz.prog w = .ok (.slice none 0 0) w := Tryz.zeroValue30 w

/-- Rows that lie from lo on; below, nothing has turned. -/
def RowsRes (lo : Nat) (m : List (List Int)) (w : World) (e : Ending) (w' : World) : Prop := ∃ u, e = .returned u ∧ MatT w' lo u m ∧ Below lo w w'
set_option maxHeartbeats 1000000 in
theorem delRows_no (v : Value) (m : List (List Int)) (g : Nat) (cb : Array Value) (ok : List Int → Prop) (p : List Int → Bool) (lo : Nat) (w : World) (eg : ∀ args w, (callFunc g args).run Tryz.prog w = .ok (.enter g args) w) (hin : MatT w lo v m) (hlo : lo ≤ w.heap.size) (hok : ∀ r ∈ m, ok r) (hp : RowPred g cb ok p w)
    (hno : idxP p m = -1) (hall : ∀ t, t < m.length → p (m.getD t []) = false) :
    Calls Tryz.prog 104 #[v, .func (.func g) #[] cb] w (RowsRes lo (m.filter fun x => !p x) w) := by
  have HI := hide (idxRows_any v m g cb ok p w eg (inMat_matT hin) hok hp)
  have HF : Hid ((m.filter fun x => !p x) = m) := hide (by rw [← kept_map, kept_all hall, map_range_getD _ _ _ (Nat.le_refl _)]; simp)
  have HM := hide hin
  have hv : ∃ a n c, v = .slice a n c := by obtain ⟨a, c, rfl, -⟩ := inMat_matT hin; exact ⟨a, _, c, rfl⟩
  obtain ⟨a, n, c, rfl⟩ := hv
  rw [hno] at HI
  clear hin hok hp hno hall eg
  go_enter Tryz.func104, Tryz.ntmps104
  go_wp2_with (go_at_call 101; refine HI.out.mono ?_; rintro e w9 ⟨rfl, hb9⟩; have HB9 := hide hb9; clear hb9)
  go_ret
  exact ⟨_, rfl, by rw [HF.out]; exact matT_below HM.out HB9.out, ⟨HB9.out.os, HB9.out.tape, HB9.out.output, HB9.out.size, fun k hk => HB9.out.block k (by omega)⟩⟩
set_option maxRecDepth 100000 in
set_option maxHeartbeats 4000000 in
theorem delRows_yes (v : Value) (m : List (List Int)) (g : Nat) (cb : Array Value) (ok : List Int → Prop) (p : List Int → Bool) (lo : Nat) (W0 w : World) (eg : ∀ args w, (callFunc g args).run Tryz.prog w = .ok (.enter g args) w) (hin : MatT w lo v m) (hW : W0.heap.size ≤ lo) (hbW : Below W0.heap.size W0 w) (hok : ∀ r ∈ m, ok r) (hp : RowPred g cb ok p W0)
    (k : Nat) (hk : k < m.length) (hyes : idxP p m = k) (hat : p (m.getD k []) = true) (hall : ∀ t, t < k → p (m.getD t []) = false) :
    Calls Tryz.prog 104 #[v, .func (.func g) #[] cb] w (RowsRes lo (m.filter fun x => !p x) w) := by
  have HI := hide (idxRows_any v m g cb ok p w eg (inMat_matT hin) hok (rowPred_mono hp hbW))
  rw [hyes] at HI
  obtain ⟨vs, hv, hrows⟩ := hin
  obtain ⟨gb, cap, rfl, hbg, hgl, hcap, hmax, -, -⟩ := own_some hv (by omega)
  have HV := hide hv; have HR := hide hrows; have HP := hide hp; have HOK := hide hok
  have HLEN := hide (delRows_len p m)
  have HMAP := hide (kept_map p m)
  have hvl : vs.length = m.length := by have := hv.1; omega
  have hK : kept p m (k + 1) = List.range k := by rw [kept_no hat, kept_all hall]
  have HK0 : Hid ((kept p m (k + 1)).length = k ∧ vs.take k = (kept p m (k + 1)).map fun t => vs.getD t undef) := hide (by
    rw [hK]; exact ⟨by simp, (map_range_getD _ _ _ (by omega)).symm⟩)
  have HBW := hide hbW
  obtain ⟨n, hn⟩ : ∃ n, n = m.length := ⟨_, rfl⟩
  have HN := hide hn
  rw [← hn] at HI HV hk hvl hcap ⊢
  unfold maxLen at hmax
  have HBG := hide hbg
  have hne1 : ((k : Int) == -1) = false := beq_eq_false_iff_ne.2 (by omega)
  clear hv hrows hp hok hyes hat hall hK hn hbW
  go_enter Tryz.func104, Tryz.ntmps104
  go_wp2_with (go_at_call 101; refine HI.out.mono ?_; rintro e w9 ⟨rfl, hb9⟩; have HB9 := hide hb9; clear hb9)
  have HL9 : Hid (Below lo w w9) := hide ⟨HB9.out.os, HB9.out.tape, HB9.out.output, HB9.out.size, fun k hk => HB9.out.block k (by omega)⟩
  go_loopw [5, 6, 7] (fun s5 s6 _ w' => ∃ (j : Nat) (ys : List Value), s6 = .int .i64 j ∧ s5 = .int .i64 (kept p m j).length ∧ j ≤ n ∧ (kept p m j).length < j ∧ w'.ownsRow lo 30 1 (.slice (some ⟨gb, 0, none⟩) n cap) n ys ∧ ys.take (kept p m j).length = ((kept p m j).map fun t => vs.getD t undef) ∧ (∀ t, j ≤ t → t < n → ys.getD t undef = vs.getD t undef) ∧
    (∀ t, (h : t < m.length) → w'.ownsRow lo 3 1 (vs.getD t undef) m[t].length (ints m[t])) ∧ Below lo w w') (fun _ s6 _ _ => n - (intOf s6).toNat)
  case atStart => exact ⟨k + 1, vs, by go_num, by rw [HK0.out.1], by omega, by rw [HK0.out.1]; omega, own_below HV.out HB9.out, by rw [HK0.out.1]; exact HK0.out.2, fun _ _ _ => rfl, fun t h => own_below (HR.out t h) HB9.out, HL9.out⟩
  case round =>
    clear HL9 HB9 HK0
    obtain ⟨j, ys, rfl, rfl, hj, hij, hown, htake, hrest, hrw, hb⟩ := hrel
    have HO := hide hown; have HT := hide htake; have HRE := hide hrest; have HRW := hide hrw; have HB := hide hb
    have HKY := hide fun h => kept_yes (p := p) (m := m) (j := j) h
    have HKN := hide fun h => kept_no (p := p) (m := m) (j := j) h
    obtain ⟨i, hi⟩ : ∃ i, i = (kept p m j).length := ⟨_, rfl⟩
    have HII := hide hi
    rw [← hi] at HT hij ⊢
    clear hown htake hrest hrw hb hi
    by_cases hlt : j < n
    · have hjm : j < m.length := by rw [← HN.out]; exact hlt
      have hltI : (j : Int) < n := by omega
      have hsz := HB.out.size
      have hx := cell_held HO.out hlt
      rw [HRE.out j (Nat.le_refl _) hlt] at hx
      have HROWj := hide (HRW.out j hjm)
      obtain ⟨a, c, hu⟩ := own_slice HROWj.out
      have hmj : m.getD j [] = m[j] := by rw [List.getD_eq_getElem?_getD, List.getElem?_eq_getElem hjm]; rfl
      have HBO : Hid (Below W0.heap.size W0 wr) := hide (HBW.out.trans (HB.out.mono hW))
      have HCALL := hide (HP.out m[j] (vs.getD j undef) wr (HOK.out _ (List.getElem_mem hjm)) HBO.out (inRow_own HROWj.out))
      rw [hmj] at HKY HKN
      have HMJ : Hid (m[j].length = m[j].length) := hide rfl
      obtain ⟨u, hue⟩ : ∃ u, u = vs.getD j undef := ⟨_, rfl⟩
      have HU := hide hue
      rw [← hue] at hx HCALL hu
      obtain ⟨q, hq⟩ : ∃ q, q = p m[j] := ⟨_, rfl⟩
      rw [← hq] at HKY HKN HCALL
      obtain ⟨L, hL⟩ : ∃ L, L = m[j].length := ⟨_, rfl⟩
      rw [← hL] at hu
      clear hq hmj hue hL HMJ
      subst hu
      cases q with
      | true =>
        have HK2 := hide (HKN.out rfl)
        clear HKY HKN
        go_wp2_with (go_at_fn g; refine HCALL.out.mono ?_; rintro e w9 ⟨rfl, hb9⟩; have HB9 := hide hb9; clear hb9)
        go_roundw
        case rel =>
          refine ⟨j + 1, ys, by go_num, by rw [HK2.out, ← HII.out], by omega, by rw [HK2.out, ← HII.out]; omega, own_below HO.out HB9.out, by rw [HK2.out, ← HII.out]; exact HT.out, fun t h1 h2 => HRE.out t (by omega) h2, fun t h => own_below (HRW.out t h) HB9.out, ?_⟩
          exact HB.out.trans (HB9.out.mono (by omega))
        case measure => simp [intOf]; omega
      | false =>
        have HK2 := hide (HKY.out rfl)
        clear HKY HKN
        go_wp2_with (go_at_fn g; refine HCALL.out.mono ?_; rintro e w9 ⟨rfl, hb9⟩; have HB9 := hide hb9; clear hb9; have HO9 := hide (own_below HO.out HB9.out); have hin' : i < n := (by omega); have hc9 := cell_held HO9.out hin'; have hf9 := HO9.out.frozenAt i; have HS := hide (HO9.out.stored i (.slice a L c)))
        go_roundw
        case rel =>
          have hyl : ys.length = n := by have := HO.out.1; omega
          have hb9 : Below lo w w9 := HB.out.trans (HB9.out.mono (by omega))
          refine ⟨j + 1, ys.set i (.slice a L c), by go_num, by rw [HK2.out, List.length_append, ← HII.out]; go_num, by omega, by rw [HK2.out, List.length_append, ← HII.out]; simp; omega, HS.out.1, ?_, fun t h1 h2 => ?_, fun t h => ?_, hb9.setCell (p := ⟨gb, i, none⟩) HBG.out _⟩
          · rw [HK2.out, List.length_append, ← HII.out, List.map_append, ← HT.out, List.map_cons, List.map_nil, ← HU.out]
            simp only [List.length_cons, List.length_nil]
            rw [Nat.zero_add, List.take_succ_eq_append_getElem (by rw [List.length_set]; omega), List.take_set_of_le (Nat.le_refl _), List.getElem_set_self]
          · rw [List.getD_eq_getElem?_getD, List.getElem?_set_ne (by omega), ← List.getD_eq_getElem?_getD]
            exact HRE.out t (by omega) h2
          · have h0 := own_below (HRW.out t h) HB9.out
            exact h0.kept HS.out.2 (own_types h0 HO9.out (by decide))
        case measure => simp [intOf]; omega
    · obtain rfl : j = n := by omega
      have hcl : ∀ ty, (Builtin.clear_ #[22] ty #[.slice (some ⟨gb, i, none⟩) (j - i) (cap - i)]).run Tryz.prog wr = .ok (.tuple #[]) (wr.setCells gb i (List.replicate (j - i) (.slice none 0 0))) :=
        fun ty => Lib.run_clear_slice wr _ _ ty _ Tryz.underlying22 zeroInts_run rfl rfl gb i _ _ (by omega) (fun t ht => by rw [cell_held HO.out (show i + t < j by omega)]; rfl) (fun t ht => HO.out.frozenAt _)
      have HM2 := hide (own_setCells (List.replicate (j - i) (Value.slice none 0 0)) i wr ys HO.out)
      obtain ⟨w2, hw2⟩ : ∃ w2, w2 = wr.setCells gb i (List.replicate (j - i) (Value.slice none 0 0)) := ⟨_, rfl⟩
      rw [← hw2] at HM2 hcl
      clear hw2
      go_wp2
      go_ret
      obtain ⟨zs, h1, h2, h3⟩ := HM2.out
      have hc := own_cut h1 (show i ≤ j by omega)
      rw [h2, HT.out] at hc
      have hKm : kept p m j = kept p m m.length := by rw [← HN.out]
      refine ⟨_, rfl, ⟨(kept p m j).map fun t => vs.getD t undef, ?_, fun t ht => ?_⟩, ?_⟩
      · rw [HLEN.out, ← hKm, ← HII.out]; exact hc
      · have ht' : t < (kept p m j).length := by rw [hKm, ← HLEN.out]; exact ht
        have hlt' := kept_lt (List.getElem_mem ht')
        have hm : (kept p m j)[t] < m.length := by rw [← HN.out]; exact hlt'
        have e1 : ((kept p m j).map fun t => vs.getD t undef).getD t undef = vs.getD (kept p m j)[t] undef := by
          rw [List.getD_eq_getElem?_getD, List.getElem?_eq_getElem (by rw [List.length_map]; exact ht'), Option.getD_some, List.getElem_map]
        have e2 : (m.filter fun x => !p x)[t] = m[(kept p m j)[t]] := by
          have h0 : ((kept p m m.length).map (fun t => m.getD t []))[t]'(by rw [HMAP.out]; exact ht) = (m.filter fun x => !p x)[t] := by
            congr 1
          rw [← h0, List.getElem_map]
          simp only [← hKm]
          rw [List.getD_eq_getElem?_getD, List.getElem?_eq_getElem hm]; rfl
        rw [e1, e2]
        have h0 := HRW.out _ hm
        exact h0.kept h3 (own_types h0 HO.out (by decide))
      · exact ⟨h3.os.trans HB.out.os, h3.tape.trans HB.out.tape, h3.output.trans HB.out.output, Nat.le_trans HB.out.size h3.size, fun t ht => by
          have := HBG.out
          rw [h3.block t (by have := HB.out.size; omega) (by simp; omega)]; exact HB.out.block t ht⟩
theorem delRows_any (v : Value) (m : List (List Int)) (g : Nat) (cb : Array Value) (ok : List Int → Prop) (p : List Int → Bool) (lo : Nat) (W0 w : World) (eg : ∀ args w, (callFunc g args).run Tryz.prog w = .ok (.enter g args) w) (hin : MatT w lo v m) (hlo : lo ≤ w.heap.size) (hW : W0.heap.size ≤ lo) (hbW : Below W0.heap.size W0 w) (hok : ∀ r ∈ m, ok r) (hp : RowPred g cb ok p W0) :
    Calls Tryz.prog 104 #[v, .func (.func g) #[] cb] w (RowsRes lo (m.filter fun x => !p x) w) := by
  rcases idxP_spec p m with ⟨h1, h2⟩ | ⟨k, hk, h1, h2, h3⟩
  · exact delRows_no v m g cb ok p lo w eg hin hlo hok (rowPred_mono hp hbW) h1 h2
  · exact delRows_yes v m g cb ok p lo W0 w eg hin hW hbW hok hp k hk h1 h2 h3
end Go.Proofs.YtcliiefedmiokaaGreat
