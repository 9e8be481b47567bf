/-
  Texts of this claim, one behind the other: RowFn, IdxI, SzB, Wt, Stop, Price, Step, Short.
-/
import Derived.Test.YtcliiefedmiokaaGreatPackC
import Derived.Test.YtcliiefedmiokaaGreatPackB
import Derived.Laws.IdiomCopy
import Derived.Lib.SliceRun
import Derived.Shelf.Abstract
import Derived.Deep.LoopGhost
import Derived.Test.YtcliiefedmiokaaGreatPackD
import Derived.RangeFuncBox
/-
  slices.IndexFunc, ContainsFunc, DeleteFunc over rows.
-/
namespace Go.Proofs.YtcliiefedmiokaaGreat
open Go.RowKit Go.Shelf

/-- What the function value answers of a row that meets ok, in whatever world has grown out of W. -/
def RowPred (g : Nat) (cb : Array Value) (ok : List Int → Prop) (p : List Int → Bool) (W : World) : Prop :=
  ∀ (r : List Int) (u : Value) (w : World), ok r → Below W.heap.size W w → InRow w u r → Calls Tryz.prog g (#[u] ++ cb) w fun e w' => e = .returned (.bool (p r)) ∧ Below w.heap.size w w'
theorem rowPred_mono {g : Nat} {cb : Array Value} {ok : List Int → Prop} {p : List Int → Bool} {W W' : World} (h : RowPred g cb ok p W) (hb : Below W.heap.size W W') : RowPred g cb ok p W' :=
  fun r u w ho hw hr => h r u w ho (hb.trans (hw.mono hb.size)) hr
/-- The place of the first row at which p holds, or -1. -/
def idxP (p : List Int → Bool) (m : List (List Int)) : Int := if m.findIdx p < m.length then (m.findIdx p : Nat) else -1
theorem idxP_hit {p : List Int → Bool} {m : List (List Int)} {k : Nat} (hk : k < m.length) (h : p m[k] = true) (ha : ∀ t, (ht : t < m.length) → t < k → p m[t] = false) : idxP p m = k := by
  have : m.findIdx p = k := (List.findIdx_eq hk).2 ⟨h, fun j hj => ha j (by omega) hj⟩
  rw [idxP, this, if_pos hk]
theorem idxP_miss {p : List Int → Bool} {m : List (List Int)} (ha : ∀ t, (ht : t < m.length) → p m[t] = false) : idxP p m = -1 := by
  rw [idxP, if_neg]
  intro h
  have := List.findIdx_getElem (w := h)
  rw [ha _ h] at this; cases this
theorem idxP_any (p : List Int → Bool) (m : List (List Int)) : decide (0 ≤ idxP p m) = m.any p := by
  cases h : m.any p with
  | true =>
    rw [List.any_eq_true] at h
    obtain ⟨x, hx, hp⟩ := h
    have := List.findIdx_lt_length_of_exists ⟨x, hx, hp⟩
    rw [idxP, if_pos this]; simp
  | false =>
    rw [List.any_eq_false] at h
    rw [idxP_miss fun t ht => by simpa using h _ (List.getElem_mem ht)]; rfl
set_option maxHeartbeats 1000000 in
theorem idxRows_any (v : Value) (m : List (List Int)) (g : Nat) (cb : Array Value) (ok : List Int → Prop) (p : List Int → Bool) (w : World) (eg : ∀ args w, (callFunc g args).run Tryz.prog w = .ok (.enter g args) w) (hin : InMat w v m) (hok : ∀ r ∈ m, ok r) (hp : RowPred g cb ok p w) :
    Calls Tryz.prog 101 #[v, .func (.func g) #[] cb] w fun e w' => e = .returned (.int .i64 (idxP p m)) ∧ Below w.heap.size w w' := by
  obtain ⟨a, c, rfl, hm, hpl⟩ := hin
  unfold maxLen at hm
  have HP := hide hp; have HOK := hide hok
  clear hp hok
  by_cases h0 : m.length = 0
  · have hr : m = [] := List.eq_nil_of_length_eq_zero h0
    subst hr
    clear hpl h0 hm
    go_enter Tryz.func101, Tryz.ntmps101
    go_wp2
    go_loop [8] (fun i => i = .int .i64 0) (fun _ => 0)
    case atStart => rfl
    case round =>
      obtain rfl := hrel
      go_wp2
      go_ret
      exact ⟨rfl, Below.refl _ _⟩
  · obtain ⟨b, o, rfl, hg, hc⟩ := hpl.resolve_left h0
    have HC := hide hc; have HG := hide hg
    obtain ⟨n, hn⟩ : ∃ n, n = m.length := ⟨_, rfl⟩
    have HN := hide hn
    rw [← hn] at hm ⊢
    clear hpl hc h0 hn hg
    go_enter Tryz.func101, Tryz.ntmps101
    go_wp2
    go_loopw [8] (fun i w' => ∃ k : Nat, k ≤ n ∧ i = .int .i64 k ∧ (∀ t, (h : t < m.length) → t < k → p m[t] = false) ∧ Below w.heap.size w w') (fun i _ => n - (intOf i).toNat)
    case atStart => exact ⟨0, Nat.zero_le _, rfl, fun t _ h => absurd h (Nat.not_lt_zero _), Below.refl _ _⟩
    case round =>
      obtain ⟨k, hk, rfl, hall, hb⟩ := hrel
      have HA := hide hall; have HB := hide hb
      clear hall hb
      by_cases hlt : k < n
      · have hk' : k < m.length := by rw [← HN.out]; exact hlt
        obtain ⟨u, hu, hru⟩ := HC.out k hk'
        have hx := below_cell HB.out HG.out hu
        have HCALL := hide (HP.out m[k] u wr (HOK.out _ (List.getElem_mem hk')) HB.out (inRow_below hru HB.out))
        have HHIT := hide (fun h => idxP_hit (p := p) hk' h HA.out)
        have HST : Hid (p m[k] = false → ∀ t, (h : t < m.length) → t < k + 1 → p m[t] = false) := hide fun h t h1 ht => by
          by_cases e : t = k
          · subst e; exact h
          · exact HA.out t h1 (by omega)
        clear hu hru
        obtain ⟨q, hq⟩ : ∃ q, q = p m[k] := ⟨_, rfl⟩
        rw [← hq] at HCALL HHIT HST
        clear hq
        cases q with
        | true =>
          have HF := hide (HHIT.out rfl); clear HHIT HST
          go_wp2_with (go_at_fn g; refine HCALL.out.mono ?_; rintro e w9 ⟨rfl, hb9⟩; have HB9 := hide (HB.out.trans (hb9.mono HB.out.size)); clear hb9)
          go_ret
          exact ⟨by rw [HF.out]; rfl, HB9.out⟩
        | false =>
          have HS2 := hide (HST.out rfl); clear HST HHIT
          go_wp2_with (go_at_fn g; refine HCALL.out.mono ?_; rintro e w9 ⟨rfl, hb9⟩; have HB9 := hide (HB.out.trans (hb9.mono HB.out.size)); clear hb9)
          go_roundw
          case rel => exact ⟨k + 1, by omega, by go_num, HS2.out, HB9.out⟩
          case measure => simp [intOf]; omega
      · have HY := hide (idxP_miss (p := p) fun t h => HA.out t h (by have := HN.out; omega))
        go_wp2
        go_ret
        exact ⟨by rw [HY.out]; rfl, HB.out⟩
set_option maxHeartbeats 400000 in
theorem containsRows_any (v : Value) (m : List (List Int)) (g : Nat) (cb : Array Value) (ok : List Int → Prop) (p : List Int → Bool) (w : World) (eg : ∀ args w, (callFunc g args).run Tryz.prog w = .ok (.enter g args) w) (hin : InMat w v m) (hok : ∀ r ∈ m, ok r) (hp : RowPred g cb ok p w) :
    Calls Tryz.prog 56 #[v, .func (.func g) #[] cb] w fun e w' => e = .returned (.bool (m.any p)) ∧ Below w.heap.size w w' := by
  have HI := hide (idxRows_any v m g cb ok p w eg hin hok hp)
  have HY := hide (idxP_any p m)
  have hlo : -1 ≤ idxP p m ∧ idxP p m ≤ maxLen := by
    obtain ⟨a, c, -, hm, -⟩ := hin
    unfold idxP
    by_cases h : m.findIdx p < m.length
    · rw [if_pos h]; omega
    · rw [if_neg h]; exact ⟨by omega, by unfold maxLen; omega⟩
  unfold maxLen at hlo
  obtain ⟨q, hq⟩ : ∃ q, q = idxP p m := ⟨_, rfl⟩
  rw [← hq] at HI HY hlo
  rw [← HY.out]
  obtain ⟨hlo, hhi⟩ := hlo
  clear hin hok hp hq eg HY
  go_enter Tryz.func56, Tryz.ntmps56
  go_wp2_with (go_at_call 101; refine HI.out.mono ?_; rintro e w9 ⟨rfl, hb9⟩; have HB9 := hide hb9; clear hb9)
  go_ret
  exact ⟨rfl, HB9.out⟩
end Go.Proofs.YtcliiefedmiokaaGreat
/-
  slices.IndexFunc and ContainsFunc over integers, at a predicate that reads memory; numbersWithin.
-/
namespace Go.Proofs.YtcliiefedmiokaaGreat
open Go.RowKit Go.Shelf

/-- What a function value answers of an integer, in one world, changing nothing. -/
def IntPredAt (g : Nat) (cb : Array Value) (p : Int → Bool) (w : World) : Prop := ∀ (x : Int), Calls Tryz.prog g (#[.int .i64 x] ++ cb) w fun e w' => e = .returned (.bool (p x)) ∧ w = w'
set_option maxHeartbeats 1000000 in
theorem idxIntsAt_any (v : Value) (r : List Int) (g : Nat) (cb : Array Value) (p : Int → Bool) (w : World) (eg : ∀ args w, (callFunc g args).run Tryz.prog w = .ok (.enter g args) w) (hin : InRow w v r) (hp : IntPredAt g cb p w) :
    Calls Tryz.prog 133 #[v, .func (.func g) #[] cb] w (IdxRes (r.any p) w) := by
  have HP := hide hp
  clear hp
  obtain ⟨a, c, rfl, hm, hp⟩ := hin
  unfold maxLen at hm
  by_cases h0 : r.length = 0
  · have hr : r = [] := List.eq_nil_of_length_eq_zero h0
    subst hr
    clear hp h0 hm
    go_enter Tryz.func133, Tryz.ntmps133
    go_wp2
    go_loop [8] (fun i => i = .int .i64 0) (fun _ => 0)
    case atStart => rfl
    case round =>
      obtain rfl := hrel
      go_wp2
      go_ret
      exact ⟨-1, rfl, by omega, rfl, rfl⟩
  · obtain ⟨gr, o, rfl, hg, hc⟩ := hp.resolve_left h0
    have HC := hide hc
    obtain ⟨n, hn⟩ : ∃ n, n = r.length := ⟨_, rfl⟩
    have HN := hide hn
    rw [← hn] at hm ⊢
    clear hp hc h0 hn
    go_enter Tryz.func133, Tryz.ntmps133
    go_wp2
    go_loop [8] (fun i => ∃ k : Nat, k ≤ n ∧ i = .int .i64 k ∧ ∀ t, (h : t < r.length) → t < k → p r[t] = false) (fun i => n - (intOf i).toNat)
    case atStart => exact ⟨0, Nat.zero_le _, rfl, fun t _ h => absurd h (Nat.not_lt_zero _)⟩
    case round =>
      obtain ⟨k, hk, rfl, hall⟩ := hrel
      have HA := hide hall
      clear hall
      by_cases hlt : k < n
      · have hk' : k < r.length := by rw [← HN.out]; exact hlt
        have hx := HC.out k hk'
        have HNO := hide (fun h => any_yes (p := p) k hk' h)
        have HST : Hid (p r[k] = false → ∀ t, (h : t < r.length) → t < k + 1 → p r[t] = false) := hide fun h t h1 ht => by
          by_cases e : t = k
          · subst e; exact h
          · exact HA.out t h1 (by omega)
        obtain ⟨x, hxx⟩ : ∃ x, x = r[k] := ⟨_, rfl⟩
        rw [← hxx] at hx HNO HST
        clear hxx
        have HCALL := hide (HP.out x)
        obtain ⟨q, hq⟩ : ∃ q, q = p x := ⟨_, rfl⟩
        rw [← hq] at HCALL HNO HST
        clear hq
        cases q with
        | true =>
          have HF := hide (HNO.out rfl)
          clear HNO HST
          go_wp2_with (go_at_fn g; refine HCALL.out.mono ?_; rintro e w9 ⟨rfl, rfl⟩)
          go_ret
          exact ⟨k, rfl, by omega, by rw [HF.out]; simp, rfl⟩
        | false =>
          have HS2 := hide (HST.out rfl)
          clear HNO HST
          go_wp2_with (go_at_fn g; refine HCALL.out.mono ?_; rintro e w9 ⟨rfl, rfl⟩)
          go_round
          case rel => exact ⟨k + 1, by omega, by go_num, HS2.out⟩
          case measure => simp [intOf]; omega
      · have HY := hide (any_no (p := p) fun t h => HA.out t h (by have := HN.out; omega))
        go_wp2
        go_ret
        exact ⟨-1, rfl, by omega, by rw [HY.out]; rfl, rfl⟩
theorem containsIntsAt_any (v : Value) (r : List Int) (g : Nat) (cb : Array Value) (p : Int → Bool) (w : World) (eg : ∀ args w, (callFunc g args).run Tryz.prog w = .ok (.enter g args) w) (hin : InRow w v r) (hp : IntPredAt g cb p w) :
    Calls Tryz.prog 111 #[v, .func (.func g) #[] cb] w fun e w' => e = .returned (.bool (r.any p)) ∧ w = w' := by
  have HI := hide (idxIntsAt_any v r g cb p w eg hin hp)
  clear hin hp eg
  go_enter Tryz.func111, Tryz.ntmps111
  go_wp2_with fail
  refine HI.out.mono ?_
  rintro e w1 ⟨i, rfl, hi, hb, rfl⟩
  have HB := hide hb
  clear hb HI
  by_cases h : 0 ≤ i
  · go_wp2
    go_ret
    exact ⟨ret_bool (by rw [HB.out]; simp [h]), rfl⟩
  · go_wp2
    go_ret
    exact ⟨ret_bool (by rw [HB.out]), rfl⟩

def within (r : List Int) (most : Int) : Bool := r.all fun x => decide (-most ≤ x ∧ x ≤ most)
theorem within_any (r : List Int) (most : Int) : within r most = !r.any fun x => decide (x < -most) || decide (x > most) := by
  unfold within
  induction r with
  | nil => rfl
  | cons x r ih =>
    rw [List.all_cons, List.any_cons, ih, Bool.not_or]
    congr 1
    by_cases h1 : x < -most
    · rw [decide_eq_true h1, decide_eq_false (by omega)]; rfl
    · by_cases h2 : x > most
      · rw [decide_eq_false h1, decide_eq_true h2, decide_eq_false (by omega)]; rfl
      · rw [decide_eq_false h1, decide_eq_false h2, decide_eq_true (by omega)]; rfl
theorem within1_any (x most : Int) (q : Nat) (w : World) (hm : 0 ≤ most ∧ most ≤ 1000) (hq : w.cell? ⟨q, 0, none⟩ = some (.int .i64 most)) :
    Calls Tryz.prog 112 #[.int .i64 x, .pointer (some ⟨q, 0, none⟩)] w fun e w' => e = .returned (.bool (decide (x < -most) || decide (x > most))) ∧ w = w' := by
  obtain ⟨h1, h2⟩ := hm
  by_cases h : x < -most
  · go_enter Tryz.func112, Tryz.ntmps112
    go_wp2
    go_ret
    exact ⟨ret_bool (by simp [h]), rfl⟩
  · go_enter Tryz.func112, Tryz.ntmps112
    go_wp2
    go_ret
    exact ⟨ret_bool (by rw [show decide (x < -most) = false from decide_eq_false (by omega)]; rfl), rfl⟩
theorem numbersWithin_any (v : Value) (r : List Int) (most : Int) (w : World) (hm : 0 ≤ most ∧ most ≤ 1000) (hin : InRow w v r) :
    Calls Tryz.prog 74 #[v, .int .i64 most] w fun e w' => e = .returned (.bool (within r most)) ∧ Below w.heap.size w w' := by
  obtain ⟨w1, hw1⟩ : ∃ w1, w1 = w.alloc (.cells #[.int .i64 most] 3) := ⟨_, rfl⟩
  have B1 := hide (show Below w.heap.size w w1 by rw [hw1]; exact (Below.refl _ w).alloc (Nat.le_refl _) _)
  have hq : w1.cell? ⟨w.heap.size, 0, none⟩ = some (.int .i64 most) := by rw [hw1]; simp [World.cell?_alloc_new]
  have HC := hide (containsIntsAt_any v r 112 #[.pointer (some ⟨w.heap.size, 0, none⟩)] (fun x => decide (x < -most) || decide (x > most)) w1 (enters_of Tryz.func112 (by kernel_rfl) rfl) (inRow_below hin B1.out) (fun x => within1_any x most _ w1 hm hq))
  rw [within_any]
  obtain ⟨b, hb⟩ : ∃ b, b = r.any fun x => decide (x < -most) || decide (x > most) := ⟨_, rfl⟩
  rw [← hb] at HC ⊢
  obtain ⟨a, c, rfl, -, -⟩ := hin
  generalize r.length = n at *
  clear hb hm hq
  go_enter Tryz.func74, Tryz.ntmps74
  go_wp2_with fail
  rw [← hw1]
  clear hw1
  refine HC.out.mono ?_
  rintro e w2 ⟨rfl, rfl⟩
  go_wp2
  go_ret
  exact ⟨rfl, B1.out⟩
end Go.Proofs.YtcliiefedmiokaaGreat
/-
  The model's check of sizes and ranges.
-/
namespace Go.Proofs.YtcliiefedmiokaaGreat
open Go.RowKit Go.Shelf

def sizeRow (C : Nat) (lo hi : Int) (q : List Int) : Bool := q.length == C && q.all fun x => decide (lo ≤ x ∧ x ≤ hi)
def sizeB (k : List (List Int)) (R C : Nat) (lo hi : Int) : Bool := k.length == R && k.all (sizeRow C lo hi)
theorem all_no {α : Type} {p : α → Bool} {l : List α} (i : Nat) (hi : i < l.length) (h : p l[i] = false) : l.all p = false := by
  rw [List.all_eq_false]
  exact ⟨l[i], List.getElem_mem hi, by simp [h]⟩
theorem all_yes {α : Type} {p : α → Bool} {l : List α} (h : ∀ i, (hi : i < l.length) → p l[i] = true) : l.all p = true := by
  rw [List.all_eq_true]
  intro x hx
  obtain ⟨i, hi, rfl⟩ := List.getElem_of_mem hx
  exact h i hi

end Go.Proofs.YtcliiefedmiokaaGreat
/-
  Weights of images: the sum of the weights of the black cells, WeightOk, WeightOf, of the program and of the model.
-/
namespace Go.Proofs.YtcliiefedmiokaaGreat
open Go.RowKit Go.Shelf

/-- The sum of the weights of the black cells. -/
def wtS (R C : Nat) (g f : Nat → Nat → Int) : Int := Mx.S R fun y => Mx.S C fun x => f y x * g y x
structure Wt (R C : Nat) (g : Nat → Nat → Int) : Prop where
  lo : ∀ y x, y < R → x < C → -100 ≤ g y x
  hi : ∀ y x, y < R → x < C → g y x ≤ 100
theorem S_bnd {f : Nat → Int} {b : Int} : ∀ n : Nat, (∀ i, i < n → -b ≤ f i ∧ f i ≤ b) → -(b * n) ≤ Mx.S n f ∧ Mx.S n f ≤ b * n
  | 0, _ => by simp [Mx.S]
  | n + 1, h => by
    have h1 := S_bnd n fun i hi => h i (by omega)
    have h2 := h n (by omega)
    have e : b * ((n + 1 : Nat) : Int) = b * n + b := by rw [show ((n + 1 : Nat) : Int) = (n : Int) + 1 by omega, Int.mul_add, Int.mul_one]
    simp only [Mx.S]
    omega
theorem wt_row {R C : Nat} {g f : Nat → Nat → Int} (hW : Wt R C g) (hI : Img R C f) {y x : Nat} (hy : y < R) (hx : x ≤ C) : -500 ≤ Mx.S x (fun i => f y i * g y i) ∧ Mx.S x (fun i => f y i * g y i) ≤ 500 := by
  have hC := hI.c2
  have := S_bnd (f := fun i => f y i * g y i) (b := 100) x fun i hi => by
    have h1 := hW.lo y i hy (by omega)
    have h2 := hW.hi y i hy (by omega)
    rcases hI.cell y i hy (by omega) with e | e
    · rw [e, Int.zero_mul]; omega
    · rw [e, Int.one_mul]; omega
  omega
theorem wt_all {R C : Nat} {g f : Nat → Nat → Int} (hW : Wt R C g) (hI : Img R C f) {y : Nat} (hy : y ≤ R) : -2500 ≤ Mx.S y (fun j => Mx.S C fun i => f j i * g j i) ∧ Mx.S y (fun j => Mx.S C fun i => f j i * g j i) ≤ 2500 := by
  have hR := hI.r2
  have := S_bnd (f := fun j => Mx.S C fun i => f j i * g j i) (b := 500) y fun i hi => wt_row hW hI (by omega) (Nat.le_refl C)
  omega
theorem sizeB_mk {k : List (List Int)} {R C : Nat} {lo hi : Int} (h : sizeB k R C lo hi = true) : k = mkM R C (cellM k) ∧ ∀ y x, y < R → x < C → lo ≤ cellM k y x ∧ cellM k y x ≤ hi := by
  rw [sizeB, Bool.and_eq_true, beq_iff_eq] at h
  obtain ⟨h1, h2⟩ := h
  have hr : ∀ i, (hi' : i < k.length) → k[i].length = C ∧ ∀ j, (hj : j < k[i].length) → lo ≤ k[i][j] ∧ k[i][j] ≤ hi := fun i hi' => by
    have := List.all_eq_true.1 h2 _ (List.getElem_mem hi')
    rw [sizeRow, Bool.and_eq_true, beq_iff_eq] at this
    refine ⟨this.1, fun j hj => ?_⟩
    have := List.all_eq_true.1 this.2 _ (List.getElem_mem hj)
    simpa using this
  have hc : ∀ y x, (hy : y < k.length) → (hx : x < k[y].length) → cellM k y x = k[y][x] := fun y x hy hx => by
    simp [cellM, List.getD_eq_getElem?_getD, hy, hx]
  refine ⟨?_, fun y x hy hx => ?_⟩
  · refine List.ext_getElem (by rw [mkM_len, h1]) fun i hi1 hi2 => ?_
    rw [mkM_at]
    refine List.ext_getElem (by rw [rowF_len, (hr i hi1).1]) fun j hj1 hj2 => ?_
    rw [rowF_at, hc i j hi1 hj1]
  · have hy' : y < k.length := by omega
    have hx' : x < k[y].length := by rw [(hr y hy').1]; exact hx
    rw [hc y x hy' hx']
    exact (hr y hy').2 x hx'
theorem sizeB_wt {k : List (List Int)} {R C : Nat} (h : sizeB k R C (-100) 100 = true) : k = mkM R C (cellM k) ∧ Wt R C (cellM k) := by
  obtain ⟨h1, h2⟩ := sizeB_mk h
  exact ⟨h1, fun y x hy hx => (h2 y x hy hx).1, fun y x hy hx => (h2 y x hy hx).2⟩
theorem anyNotW {α : Type} (p : α → Bool) (r : List α) : (!r.any fun x => !p x) = r.all p := by
  induction r with
  | nil => rfl
  | cons x r ih => rw [List.any_cons, List.all_cons, ← ih]; cases p x <;> simp
theorem wtS_congr {R C : Nat} {g g' f f' : Nat → Nat → Int} (hg : ∀ y x, y < R → x < C → g y x = g' y x) (hf : ∀ y x, y < R → x < C → f y x = f' y x) : wtS R C g f = wtS R C g' f' :=
  Mx.S_congr R fun y hy => Mx.S_congr C fun x hx => by rw [hg y x hy hx, hf y x hy hx]

set_option maxRecDepth 100000 in
set_option maxHeartbeats 1000000 in
theorem blackWeight_any (vk vm : Value) (R C : Nat) (g f : Nat → Nat → Int) (w : World) (hk : InMat w vk (mkM R C g)) (hm : InMat w vm (mkM R C f)) (hI : Img R C f) (hW : Wt R C g) :
    Calls Tryz.prog 71 #[vk, vm] w fun e w' => e = .returned (.int .i64 (wtS R C g f)) ∧ w = w' := by
  have hR1 := hI.r1; have hC1 := hI.c1; have hR := hI.r2; have hC := hI.c2
  obtain ⟨ga, oa, ca, rfl, hga, hca⟩ := inMat_img hk (by omega) (by omega)
  obtain ⟨gb, ob, cb, rfl, hgb, hcb⟩ := inMat_img hm (by omega) (by omega)
  have HA := hide hca; have HB := hide hcb; have HI := hide hI; have HW := hide hW
  have HE : Hid (wtS R C g f = Mx.S R fun j => Mx.S C fun i => f j i * g j i) := hide rfl
  rw [HE.out]
  have HZ : Hid ((0 : Int) = Mx.S 0 fun j => Mx.S C fun i => f j i * g j i) := hide rfl
  clear hk hm hI hW hca hcb HE
  go_enter Tryz.func71, Tryz.ntmps71
  go_wp2
  go_loop [5, 12] (fun s i => ∃ y : Nat, y ≤ R ∧ i = .int .i64 y ∧ s = .int .i64 (Mx.S y fun j => Mx.S C fun i => f j i * g j i)) (fun _ i => R - (intOf i).toNat)
  case atStart => exact ⟨0, by omega, rfl, by rw [← HZ.out]⟩
  case round =>
    obtain ⟨y, hy, rfl, rfl⟩ := hrel
    by_cases hlt : y < R
    · have hyI : (y : Int) < R := by omega
      obtain ⟨g', o', c', hx, hg', hcc⟩ := HB.out y hlt
      obtain ⟨g2, o2, c2, hx2, hg2, hc2⟩ := HA.out y hlt
      have HCC := hide hcc; have HC2 := hide hc2
      have hb := wt_all HW.out HI.out hy
      have HST := hide (show (Mx.S (y + 1) fun j => Mx.S C fun i => f j i * g j i) = (Mx.S y fun j => Mx.S C fun i => f j i * g j i) + Mx.S C fun i => f y i * g y i from rfl)
      obtain ⟨T, hT⟩ : ∃ T, T = Mx.S y fun j => Mx.S C fun i => f j i * g j i := ⟨_, rfl⟩
      rw [← hT] at hb HST ⊢
      obtain ⟨hb1, hb2⟩ := hb
      have HZ0 : Hid (T = T + Mx.S 0 fun i => f y i * g y i) := hide (by simp [Mx.S])
      clear hcc hc2 hT
      go_wp2
      go_loop [5, 19] (fun s i => ∃ x : Nat, x ≤ C ∧ i = .int .i64 x ∧ s = .int .i64 (T + Mx.S x fun i => f y i * g y i)) (fun _ i => C - (intOf i).toNat)
      case atStart => exact ⟨0, by omega, rfl, by rw [← HZ0.out]⟩
      case round =>
        obtain ⟨x, hxx, rfl, rfl⟩ := hrel
        by_cases hlx : x < C
        · have hxI : (x : Int) < C := by omega
          have hz := HCC.out x hlx
          have hz2 := HC2.out x hlx
          obtain ⟨b1, b2⟩ := wt_row HW.out HI.out hlt hxx
          have b3 := HW.out.lo y x hlt hlx
          have b4 := HW.out.hi y x hlt hlx
          have HS1 := hide (show (Mx.S (x + 1) fun i => f y i * g y i) = (Mx.S x fun i => f y i * g y i) + f y x * g y x from rfl)
          obtain ⟨U, hU⟩ : ∃ U, U = Mx.S x fun i => f y i * g y i := ⟨_, rfl⟩
          rw [← hU] at b1 b2 HS1 ⊢
          have h01 := HI.out.cell y x hlt hlx
          obtain ⟨s, hs⟩ : ∃ s, s = f y x := ⟨_, rfl⟩
          obtain ⟨t, ht⟩ : ∃ t, t = g y x := ⟨_, rfl⟩
          rw [← hs, ← ht] at HS1
          rw [← hs] at hz h01
          rw [← ht] at hz2 b3 b4
          clear hs ht hU
          rcases h01 with rfl | rfl
          · have HS2 := hide (show (Mx.S (x + 1) fun i => f y i * g y i) = U by rw [HS1.out, Int.zero_mul, Int.add_zero])
            clear HS1
            go_wp2
            go_round
            case rel => exact ⟨x + 1, by omega, by go_num, by rw [HS2.out]⟩
            case measure => simp [intOf]; omega
          · have HS2 := hide (show (Mx.S (x + 1) fun i => f y i * g y i) = U + t by rw [HS1.out, Int.one_mul])
            clear HS1
            go_wp2
            go_round
            case rel => exact ⟨x + 1, by omega, by go_num, by rw [HS2.out, Int.add_assoc]⟩
            case measure => simp [intOf]; omega
        · obtain rfl : x = C := by omega
          go_wp2
          go_round
          case rel => exact ⟨y + 1, by omega, by go_num, by rw [HST.out]⟩
          case measure => simp [intOf]; omega
    · obtain rfl : y = R := by omega
      go_wp2
      go_ret
      exact ⟨rfl, rfl⟩
/-- The sizes and the range of weights. -/
def wtB (k : List (List Int)) (R C : Int) : Bool := sizeOk R C && sizeB k R.toNat C.toNat (-100) 100
theorem within_row (C : Nat) (q : List Int) : (q.length == C && within q 100) = sizeRow C (-100) 100 q := rfl
theorem weightOk1_any (u : Value) (row : List Int) (C : Nat) (q : Nat) (w : World) (hu : InRow w u row) (hC : C ≤ 5) (hq : w.cell? ⟨q, 0, none⟩ = some (.int .i64 C)) :
    Calls Tryz.prog 73 #[u, .pointer (some ⟨q, 0, none⟩)] w fun e w' => e = .returned (.bool (!sizeRow C (-100) 100 row)) ∧ Below w.heap.size w w' := by
  have HN := hide (numbersWithin_any u row 100 w (by omega) hu)
  rw [← within_row]
  obtain ⟨b, hb⟩ : ∃ b, b = within row 100 := ⟨_, rfl⟩
  rw [← hb] at HN ⊢
  obtain ⟨a, c, rfl, hm, -⟩ := hu
  unfold maxLen at hm
  obtain ⟨n, hn⟩ : ∃ n, n = row.length := ⟨_, rfl⟩
  rw [← hn] at HN hm ⊢
  clear hb hn
  by_cases h : n = C
  · subst h
    rw [show (n == n) = true from beq_self_eq_true n]
    go_enter Tryz.func73, Tryz.ntmps73
    go_wp2_with (go_at_call 74; refine HN.out.mono ?_; rintro e w' ⟨rfl, hb9⟩; have HB9 := hide hb9; clear hb9)
    go_ret
    exact ⟨ret_bool (by simp), HB9.out⟩
  · have hne : ((n : Int) != (C : Int)) = true := by simp; omega
    rw [show (n == C) = false from beq_eq_false_iff_ne.2 h]
    go_enter Tryz.func73, Tryz.ntmps73
    go_wp2
    go_ret
    exact ⟨rfl, Below.refl _ _⟩
set_option maxHeartbeats 1000000 in
theorem implWeightOk_any (v : Value) (k : List (List Int)) (R C : Int) (w : World) (hin : InMat w v k) :
    Calls Tryz.prog 30 #[v, .int .i64 R, .int .i64 C] w fun e w' => e = .returned (.bool (wtB k R C)) ∧ Below w.heap.size w w' := by
  obtain ⟨w1, hw1⟩ : ∃ w1, w1 = w.alloc (.cells #[.int .i64 C] 3) := ⟨_, rfl⟩
  have B1 := hide (show Below w.heap.size w w1 by rw [hw1]; exact (Below.refl _ w).alloc (Nat.le_refl _) _)
  have hq : w1.cell? ⟨w.heap.size, 0, none⟩ = some (.int .i64 C) := by rw [hw1]; simp [World.cell?_alloc_new]
  by_cases h1 : 1 ≤ R ∧ R ≤ 5
  · have HR := hide fun w' => sideOk_any R w'
    rw [decide_eq_true h1] at HR
    by_cases h2 : 1 ≤ C ∧ C ≤ 5
    · have HC := hide fun w' => sideOk_any C w'
      rw [decide_eq_true h2] at HC
      have HS : Hid (sizeOk R C = true) := hide (by rw [sizeOk, decide_eq_true h1, decide_eq_true h2]; rfl)
      obtain ⟨r, rfl⟩ : ∃ r : Nat, R = r := ⟨R.toNat, by omega⟩
      obtain ⟨c, rfl⟩ : ∃ c : Nat, C = c := ⟨C.toNat, by omega⟩
      have HM : Hid (wtB k r c = (k.length == r && !k.any fun q => !sizeRow c (-100) 100 q)) := hide (by rw [wtB, HS.out, Bool.true_and, sizeB, Int.toNat_natCast, Int.toNat_natCast, anyNotW])
      have HCN := hide (containsRows_any v k 73 #[.pointer (some ⟨w.heap.size, 0, none⟩)] (fun _ => True) (fun q => !sizeRow c (-100) 100 q) w1 (enters_of Tryz.func73 (by kernel_rfl) rfl) (inMat_below hin B1.out) (fun _ _ => trivial)
        (fun row u w2 _ h2' hu => weightOk1_any u row c w.heap.size w2 hu (by omega) (by rw [below_cell h2' (by rw [hw1]; simp) hq])))
      rw [HM.out]
      obtain ⟨b, hb⟩ : ∃ b, b = k.any fun q => !sizeRow c (-100) 100 q := ⟨_, rfl⟩
      rw [← hb] at HCN ⊢
      obtain ⟨a, ca, rfl, hm, -⟩ := hin
      unfold maxLen at hm
      obtain ⟨K, hK⟩ : ∃ K, K = k.length := ⟨_, rfl⟩
      rw [← hK] at HCN hm ⊢
      clear hb HM hK h1 HS
      by_cases h : K = r
      · subst h
        rw [show (K == K) = true from beq_self_eq_true K]
        go_enter Tryz.func30, Tryz.ntmps30
        go_wp2_with fail
        rw [← hw1]
        clear hw1
        go_wp2_with (first | (with_reducible refine (HR.out _).mono ?_; rintro e w9 ⟨rfl, rfl⟩) | (with_reducible refine (HC.out _).mono ?_; rintro e w9 ⟨rfl, rfl⟩) | (go_at_call 56; refine HCN.out.mono ?_; rintro e w2 ⟨rfl, b2⟩; have B2 := hide b2; clear b2))
        go_ret
        exact ⟨ret_bool (by simp), B1.out.trans (B2.out.mono B1.out.size)⟩
      · have hne : ((K : Int) == (r : Int)) = false := by simp; omega
        rw [show (K == r) = false from beq_eq_false_iff_ne.2 h]
        go_enter Tryz.func30, Tryz.ntmps30
        go_wp2_with fail
        rw [← hw1]
        clear hw1
        go_wp2_with (first | (with_reducible refine (HR.out _).mono ?_; rintro e w9 ⟨rfl, rfl⟩) | (with_reducible refine (HC.out _).mono ?_; rintro e w9 ⟨rfl, rfl⟩))
        go_ret
        exact ⟨rfl, B1.out⟩
    · have HC := hide fun w' => sideOk_any C w'
      rw [decide_eq_false h2] at HC
      have HS : Hid (wtB k R C = false) := hide (by rw [wtB, sizeOk, decide_eq_false h2, Bool.and_false, Bool.false_and])
      rw [HS.out]
      obtain ⟨a, ca, rfl, hm, -⟩ := hin
      generalize k.length = K at *
      clear h1 h2 HS
      go_enter Tryz.func30, Tryz.ntmps30
      go_wp2_with fail
      rw [← hw1]
      clear hw1
      go_wp2_with (first | (with_reducible refine (HR.out _).mono ?_; rintro e w9 ⟨rfl, rfl⟩) | (with_reducible refine (HC.out _).mono ?_; rintro e w9 ⟨rfl, rfl⟩))
      go_ret
      exact ⟨rfl, B1.out⟩
  · have HR := hide fun w' => sideOk_any R w'
    rw [decide_eq_false h1] at HR
    have HS : Hid (wtB k R C = false) := hide (by rw [wtB, sizeOk, decide_eq_false h1, Bool.false_and, Bool.false_and])
    rw [HS.out]
    obtain ⟨a, ca, rfl, hm, -⟩ := hin
    generalize k.length = K at *
    clear h1 HS
    go_enter Tryz.func30, Tryz.ntmps30
    go_wp2_with fail
    rw [← hw1]
    clear hw1
    go_wp2_with (first | (with_reducible refine (HR.out _).mono ?_; rintro e w9 ⟨rfl, rfl⟩))
    go_ret
    exact ⟨rfl, B1.out⟩
end Go.Proofs.YtcliiefedmiokaaGreat
/-
  Stops and steps: what they are in memory; stopsFor, collect, pricesAt.
-/
namespace Go.Proofs.YtcliiefedmiokaaGreat
open Go.RowKit

def ptrS (b : Nat) : Value := .pointer (some ⟨b, 0, none⟩)
def ptrsB (b : Nat → Nat) (n k : Nat) : List Value := (List.range n).map fun i => if i < k then ptrS (b i) else .pointer none
theorem ptrsB_len (b : Nat → Nat) (n k : Nat) : (ptrsB b n k).length = n := by simp [ptrsB]
theorem ptrsB_at {b : Nat → Nat} {n k i : Nat} (h : i < n) : (ptrsB b n k).getD i undef = if i < k then ptrS (b i) else .pointer none := by simp [ptrsB, h]
theorem ptrsB_zero (b : Nat → Nat) (n : Nat) : List.replicate n (Value.pointer none) = ptrsB b n 0 := by
  apply List.ext_getElem
  · simp [ptrsB]
  · intro i h1 h2; simp [ptrsB]
theorem ptrsB_set {b : Nat → Nat} {n k : Nat} {x : Nat} (hk : k < n) : (ptrsB b n k).set k (ptrS x) = ptrsB (fun i => if i = k then x else b i) n (k + 1) := by
  apply List.ext_getElem
  · simp [ptrsB]
  · intro i h1 h2
    have hi : i < n := by simpa [ptrsB] using h2
    by_cases e : i = k
    · subst e; simp [ptrsB]
    · rw [List.getElem_set_ne (Ne.symm e)]
      simp only [ptrsB, List.getElem_map, List.getElem_range, if_neg e]
      by_cases e2 : i < k
      · rw [if_pos e2, if_pos (by omega)]
      · rw [if_neg e2, if_neg (by omega)]
theorem ptrsB_congr {b b' : Nat → Nat} {n k : Nat} (h : ∀ i, i < k → b i = b' i) : ptrsB b n k = ptrsB b' n k := by
  unfold ptrsB
  refine List.map_congr_left fun i _ => ?_
  by_cases e : i < k
  · rw [if_pos e, if_pos e, h i e]
  · rw [if_neg e, if_neg e]
theorem Tryz.infoPtrStop : (Tryz.prog.info? 127).map (fun i => (i.zero, i.size, i.bytes)) = some (some (.pointer none), 1, 8) := by kernel_rfl
theorem newStop_any (k : Int) (w : World) :
    Calls Tryz.prog 114 #[.int .i64 k] w fun e w' => e = .returned (.pointer (some ⟨w.heap.size, 0, none⟩)) ∧ w' = w.alloc (.cells #[.int .i64 0] 129) := by
  go_enter Tryz.func114, Tryz.ntmps114
  go_wp2
  go_ret
  exact ⟨rfl, rfl⟩
/-- Stops of the call's own, from lo on, and the list of pointers to them. -/
structure StopsB (w : World) (lo : Nat) (v : Value) (n : Nat) (b : Nat → Nat) : Prop where
  own : w.ownsRow lo 127 1 v n (ptrsB b n n)
  box : ∀ i, i < n → lo ≤ b i ∧ Boxed w (b i) 129 (.int .i64 0)
  inj : ∀ i j, i < j → j < n → b i < b j
set_option maxHeartbeats 1000000 in
theorem collectStops_any (n : Nat) (w : World) (hn : n ≤ 5) :
    Calls Tryz.prog 113 #[.int .i64 n, .func (.func 114) #[] #[]] w fun e w' => ∃ v b, e = .returned v ∧ StopsB w' w.heap.size v n b ∧ Below w.heap.size w w' := by
  go_enter Tryz.func113, Tryz.ntmps113
  go_wp2_with (at_make; refine wpList_new w.heap.size n (.pointer none) rfl _ _ rfl Tryz.underlying90 Tryz.infoPtrStop rfl (by decide) rfl rfl (by omega) (Nat.le_refl _) ?_; intro w1 hown1 hb1 hg1)
  have HO : Hid (∃ b, w1.ownsRow w.heap.size 127 1 (.slice (some ⟨w.heap.size, 0, none⟩) n n) n (ptrsB b n 0) ∧ (∀ i, i < 0 → w.heap.size < b i ∧ Boxed w1 (b i) 129 (.int .i64 0)) ∧ ∀ i j, i < j → j < 0 → b i < b j) := hide ⟨fun _ => 0, by rw [ptrsB_zero fun _ => 0] at hown1; exact hown1, fun i h => absurd h (Nat.not_lt_zero _), fun i j _ h => absurd h (Nat.not_lt_zero _)⟩
  have HB := hide hb1
  clear hown1 hb1 hg1
  go_wp2
  go_loopw [10] (fun i w' => ∃ k : Nat, k ≤ n ∧ i = .int .i64 k ∧ (∃ b, w'.ownsRow w.heap.size 127 1 (.slice (some ⟨w.heap.size, 0, none⟩) n n) n (ptrsB b n k) ∧ (∀ i, i < k → w.heap.size < b i ∧ Boxed w' (b i) 129 (.int .i64 0)) ∧ ∀ i j, i < j → j < k → b i < b j) ∧ Below w.heap.size w w') (fun i _ => n - (intOf i).toNat)
  case atStart => exact ⟨0, Nat.zero_le _, rfl, HO.out, HB.out⟩
  case round =>
    clear HO HB
    obtain ⟨k, hk, rfl, ⟨b, hown, hbox, hinj⟩, hb⟩ := hrel
    have HO := hide hown; have HB := hide hb; have HX := hide hbox; have HJ := hide hinj
    clear hown hb hbox hinj
    by_cases hlt : k < n
    · have HCA := hide (newStop_any ((k : Int) + 1) wr)
      have HO2 := hide (HO.out.alloc (.cells #[.int .i64 0] 129))
      have hc1 := cell_held HO2.out hlt
      have hf := HO2.out.frozenAt k
      have HS := hide (HO.out.stored k (ptrS wr.heap.size)).1
      rw [ptrsB_set hlt] at HS
      have hown := (HO.out.lt _ rfl).2
      go_wp2_with (go_at_call 114; refine HCA.out.mono ?_; rintro e w9 ⟨rfl, rfl⟩)
      go_roundw
      case rel =>
        have hsz : (wr.setCell ⟨w.heap.size, k, none⟩ (ptrS wr.heap.size)).heap.size = wr.heap.size := by simp [World.setCell]
        refine ⟨k + 1, by omega, by go_num, ⟨_, HS.out.alloc _, fun i hi => ?_, fun i j hij hj => ?_⟩, (HB.out.setCell (p := ⟨w.heap.size, k, none⟩) (Nat.le_refl _) _).alloc (Nat.le_trans HB.out.size (Nat.le_of_eq hsz.symm)) _⟩
        · have hnb : ∀ q, w.heap.size < q → q ≠ w.heap.size := fun q h => by omega
          by_cases e : i = k
          · subst e
            simp only [if_true]
            refine ⟨hown, ?_⟩
            have := Boxed.new (wr.setCell ⟨w.heap.size, i, none⟩ (ptrS wr.heap.size)) 129 (.int .i64 0)
            rw [hsz] at this
            exact this
          · simp only [if_neg e]
            obtain ⟨h1, h2⟩ := HX.out i (by omega)
            exact ⟨h1, (show Boxed (wr.setCell ⟨w.heap.size, k, none⟩ (ptrS wr.heap.size)) (b i) 129 (.int .i64 0) from (Below.heap_setCell _ _ _ _ (Nat.ne_of_gt h1)).trans h2).alloc _⟩
        · by_cases e : j = k
          · subst e
            have e2 : i ≠ j := by omega
            simp only [if_true, if_neg e2]
            exact (HX.out i (by omega)).2.lt
          · have e2 : i ≠ k := by omega
            simp only [if_neg e, if_neg e2]
            exact HJ.out i j hij (by omega)
      case measure => simp [intOf]; omega
    · obtain rfl : k = n := by omega
      go_wp2
      go_ret
      exact ⟨_, b, rfl, ⟨HO.out, fun i hi => ⟨Nat.le_of_lt (HX.out i hi).1, (HX.out i hi).2⟩, HJ.out⟩, HB.out⟩
theorem stopsFor_any (n : Nat) (w : World) (hn : n ≤ 5) :
    Calls Tryz.prog 75 #[.int .i64 n] w fun e w' => ∃ v b, e = .returned v ∧ StopsB w' w.heap.size v n b ∧ Below w.heap.size w w' := by
  have HC := hide (collectStops_any n w hn)
  go_enter Tryz.func75, Tryz.ntmps75
  go_wp2_with fail
  refine HC.out.mono ?_
  rintro e w1 ⟨v, b, rfl, hs, hb⟩
  obtain ⟨av, cv, rfl⟩ := own_slice hs.own
  have H := hide (And.intro hs hb)
  clear hs hb
  go_wp2
  go_ret
  exact ⟨_, b, rfl, H.out.1, H.out.2⟩
end Go.Proofs.YtcliiefedmiokaaGreat
/-
  collect over any function of integers; pricesAt.
-/
namespace Go.Proofs.YtcliiefedmiokaaGreat
open Go.RowKit

theorem rowF_zeros (n : Nat) : List.replicate n (Value.int .i64 0) = ints (rowF n fun _ => 0) := by
  apply List.ext_getElem
  · simp [ints, rowF]
  · intro i h1 h2; simp [ints, rowF]
set_option maxHeartbeats 1000000 in
theorem collectG_any (gf : Nat) (cb : Array Value) (F : Nat → Int) (n : Nat) (w : World) (eg : ∀ args w, (callFunc gf args).run Tryz.prog w = .ok (.enter gf args) w) (hn : n ≤ 5)
    (hF : ∀ (k : Nat) (W : World), k < n → Below w.heap.size w W → Calls Tryz.prog gf (#[.int .i64 ((k : Int) + 1)] ++ cb) W fun e W' => e = .returned (.int .i64 (F k)) ∧ Below W.heap.size W W') :
    Calls Tryz.prog 95 #[.int .i64 n, .func (.func gf) #[] cb] w (IntsRes (rowF n F) w) := by
  have HF := hide hF
  clear hF
  go_enter Tryz.func95, Tryz.ntmps95
  go_wp2_with (at_make; refine wpList_new w.heap.size n (.int .i64 0) rfl _ _ rfl Tryz.underlying30 Tryz.infoInt rfl (by decide) rfl rfl (by omega) (Nat.le_refl _) ?_; intro w1 hown1 hb1 hg1)
  have HO := hide hown1; have HB := hide hb1
  clear hown1 hb1 hg1
  go_wp2
  go_loopw [10] (fun i w' => ∃ k : Nat, k ≤ n ∧ i = .int .i64 k ∧ w'.ownsRow w.heap.size 3 1 (.slice (some ⟨w.heap.size, 0, none⟩) n n) n (ints (rowF n fun t => if t < k then F t else 0)) ∧ Below w.heap.size w w') (fun i _ => n - (intOf i).toNat)
  case atStart => exact ⟨0, Nat.zero_le _, rfl, by rw [rowF_zeros] at HO; exact HO.out, HB.out⟩
  case round =>
    clear HO HB
    obtain ⟨k, hk, rfl, hown, hb⟩ := hrel
    have HO := hide hown; have HB := hide hb
    clear hown hb
    by_cases hlt : k < n
    · have HCA := hide (HF.out k wr hlt HB.out)
      have HKS := hide fun (w9 : World) (h9 : Below wr.heap.size wr w9) => (own_below HO.out h9)
      have e2 : rowF n (fun t => if t = k then F k else if t < k then F t else 0) = rowF n fun t => if t < k + 1 then F t else 0 := rowF_congr fun i _ => by
        by_cases e : i = k
        · subst e; rw [if_pos rfl, if_pos (Nat.lt_succ_self _)]
        · rw [if_neg e]
          by_cases e' : i < k
          · rw [if_pos e', if_pos (by omega)]
          · rw [if_neg e', if_neg (by omega)]
      have HS := hide fun (w9 : World) (h9 : Below wr.heap.size wr w9) => (show (w9.setCell ⟨w.heap.size, k, none⟩ (.int .i64 (F k))).ownsRow w.heap.size 3 1 (.slice (some ⟨w.heap.size, 0, none⟩) n n) n (ints (rowF n fun t => if t < k + 1 then F t else 0)) by
        have := ((HKS.out w9 h9).stored k (.int .i64 (F k))).1
        rw [ints_set, rowF_set, e2] at this
        exact this)
      clear e2
      obtain ⟨z, hz⟩ : ∃ z, z = F k := ⟨_, rfl⟩
      rw [← hz] at HCA HS
      clear hz
      go_wp2_with (go_at_fn gf; refine HCA.out.mono ?_; rintro e w9 ⟨rfl, b9⟩; have hc1 := cell_held (HKS.out w9 b9) hlt; have hf := (HKS.out w9 b9).frozenAt k; have HS9 := hide (HS.out w9 b9); have HB9 := hide (HB.out.trans (b9.mono HB.out.size)); clear b9)
      go_roundw
      case rel => exact ⟨k + 1, by omega, by go_num, HS9.out, HB9.out.setCell (Nat.le_refl _) _⟩
      case measure => simp [intOf]; omega
    · obtain rfl : k = n := by omega
      have e3 : rowF k (fun t => if t < k then F t else 0) = rowF k F := rowF_congr fun i hi => by rw [if_pos hi]
      have HO : Hid _ := hide (e3 ▸ HO.out)
      clear e3
      go_wp2
      go_ret
      exact ⟨_, rfl, by rw [rowF_len]; exact HO.out, HB.out⟩
theorem price1_any (k n c q1 q2 g b : Nat) (sign d : Int) (w : World) (hs : sign = 1 ∨ sign = -1) (hd : -100000 ≤ d ∧ d ≤ 0) (hk : k < n) (hn : n ≤ 5)
    (h1 : w.cell? ⟨q1, 0, none⟩ = some (.int .i64 sign)) (h2 : w.cell? ⟨q2, 0, none⟩ = some (.slice (some ⟨g, 0, none⟩) n c)) (h3 : w.cell? ⟨g, k, none⟩ = some (.pointer (some ⟨b, 0, none⟩))) (h4 : w.cell? ⟨b, 0, none⟩ = some (.int .i64 d)) :
    Calls Tryz.prog 117 #[.int .i64 ((k : Int) + 1), .pointer (some ⟨q1, 0, none⟩), .pointer (some ⟨q2, 0, none⟩)] w fun e w' => e = .returned (.int .i64 (sign * d)) ∧ Below w.heap.size w w' := by
  have hkI : (k : Int) < n := by omega
  obtain ⟨hd1, hd2⟩ := hd
  rcases hs with rfl | rfl
  · rw [Int.one_mul]
    go_enter Tryz.func117, Tryz.ntmps117
    go_wp2
    go_quiet (fail)
    go_wp2
    go_ret
    exact ⟨rfl, below_draws (Below.refl _ _) _⟩
  · rw [show (-1 : Int) * d = -d by omega]
    go_enter Tryz.func117, Tryz.ntmps117
    go_wp2
    go_quiet (fail)
    go_wp2
    go_ret
    exact ⟨rfl, below_draws (Below.refl _ _) _⟩
set_option maxHeartbeats 1000000 in
theorem pricesAt_any (v : Value) (n lo : Nat) (b : Nat → Nat) (d : Nat → Int) (sign : Int) (w : World) (hs : sign = 1 ∨ sign = -1) (hn : 1 ≤ n ∧ n ≤ 5) (hown : w.ownsRow lo 127 1 v n (ptrsB b n n)) (hbox : ∀ i, i < n → Boxed w (b i) 129 (.int .i64 (d i))) (hd : ∀ i, i < n → -100000 ≤ d i ∧ d i ≤ 0) :
    Calls Tryz.prog 78 #[v, .int .i64 sign] w (IntsRes (rowF n fun i => sign * d i) w) := by
  obtain ⟨w1, hw1⟩ : ∃ w1, w1 = (w.alloc (.cells #[v] 90)).alloc (.cells #[.int .i64 sign] 3) := ⟨_, rfl⟩
  have B1 := hide (show Below w.heap.size w w1 by rw [hw1]; exact ((Below.refl _ w).alloc (Nat.le_refl _) _).alloc (by simp) _)
  have hs1 : w1.heap.size = w.heap.size + 2 := by rw [hw1]; simp
  have hq2 : w1.cell? ⟨w.heap.size, 0, none⟩ = some v := by
    have h : Boxed w1 w.heap.size 90 v := by rw [hw1]; exact (Boxed.new w _ _).alloc _
    exact h.cell
  have hq1 : w1.cell? ⟨w.heap.size + 1, 0, none⟩ = some (.int .i64 sign) := by
    have h : Boxed w1 (w.heap.size + 1) 3 (.int .i64 sign) := by
      rw [hw1]
      have := Boxed.new (w.alloc (.cells #[v] 90)) 3 (.int .i64 sign)
      rw [World.size_alloc] at this
      exact this
    exact h.cell
  obtain ⟨g, c, rfl, -, hg, -, -, -, -⟩ := own_some hown hn.1
  have HC := hide (collectG_any 117 #[.pointer (some ⟨w.heap.size + 1, 0, none⟩), .pointer (some ⟨w.heap.size, 0, none⟩)] (fun i => sign * d i) n w1 (enters_of Tryz.func117 (by kernel_rfl) rfl) hn.2 (fun k W hk hW => by
    have hp := cell_held hown hk
    rw [ptrsB_at hk, if_pos hk] at hp
    have hBW := B1.out.trans (hW.mono B1.out.size)
    exact price1_any k n c (w.heap.size + 1) w.heap.size g (b k) sign (d k) W hs (hd k hk) hk hn.2 (below_cell hW (by omega) hq1) (below_cell hW (by omega) hq2) (below_cell hBW hg hp) (below_cell hBW (hbox k hk).lt (hbox k hk).cell)))
  clear hq1 hq2 hs1 hbox hd hown
  obtain ⟨hn1, hn2⟩ := hn
  go_enter Tryz.func78, Tryz.ntmps78
  go_wp2_with fail
  rw [← hw1]
  clear hw1
  refine HC.out.mono ?_
  rintro e w2 ⟨u, rfl, ho, hb⟩
  obtain ⟨au, cu, rfl⟩ := own_slice ho
  have H := hide (And.intro (own_base ho B1.out.size) (B1.out.trans (hb.mono B1.out.size)))
  clear ho hb
  go_wp2
  go_ret
  exact ⟨_, rfl, H.out.1, H.out.2⟩
end Go.Proofs.YtcliiefedmiokaaGreat
/-
  Steps: back, shortens.
-/
namespace Go.Proofs.YtcliiefedmiokaaGreat
open Go.RowKit

def stA (p q : Nat) (l : Int) : Array Value := #[.pointer (some ⟨p, 0, none⟩), .pointer (some ⟨q, 0, none⟩), .int .i64 l]
theorem Tryz.sizeStep : (Tryz.prog.info? 132).map (·.size) = some 3 := by kernel_rfl
theorem back_any (p q : Nat) (l : Int) (w : World) (hl : -100 ≤ l ∧ l ≤ 100) :
    Calls Tryz.prog 115 #[.agg #[.pointer (some ⟨p, 0, none⟩), .pointer (some ⟨q, 0, none⟩), .int .i64 l]] w fun e w' => e = .returned (.agg #[.pointer (some ⟨q, 0, none⟩), .pointer (some ⟨p, 0, none⟩), .int .i64 (-l)]) ∧ Below w.heap.size w w' := by
  obtain ⟨h1, h2⟩ := hl
  go_enter Tryz.func115, Tryz.ntmps115
  go_wp2
  refine bodyPost_ret (v := .agg #[.pointer (some ⟨q, 0, none⟩), .pointer (some ⟨p, 0, none⟩), .int .i64 (-l)]) (by simp [results, Tryz.results115, go_sem]) rfl ⟨rfl, ((Below.refl _ w).alloc (Nat.le_refl _) _).alloc (by simp) _⟩
/-- Nothing has turned but blocks of A. -/
structure Onl (A : Nat → Prop) (w w' : World) : Prop where
  os : w'.os = w.os
  tape : w'.tape = w.tape
  output : w'.output = w.output
  size : w.heap.size ≤ w'.heap.size
  block : ∀ k, k < w.heap.size → ¬ A k → w'.heap[k]? = w.heap[k]?
theorem onl_refl (A : Nat → Prop) (w : World) : Onl A w w := ⟨rfl, rfl, rfl, Nat.le_refl _, fun _ _ _ => rfl⟩
theorem onl_trans {A B C : Nat → Prop} {u v w : World} (h : Onl A u v) (k : Onl B v w) (hA : ∀ i, A i → C i) (hB : ∀ i, B i → C i) : Onl C u w :=
  ⟨k.os.trans h.os, k.tape.trans h.tape, k.output.trans h.output, Nat.le_trans h.size k.size, fun i hi hn => by
    rw [k.block i (Nat.lt_of_lt_of_le hi h.size) (fun e => hn (hB i e)), h.block i hi (fun e => hn (hA i e))]⟩
theorem onl_below {A : Nat → Prop} {w w' : World} (h : Below w.heap.size w w') : Onl A w w' := ⟨h.os, h.tape, h.output, h.size, fun k hk _ => h.block k hk⟩
theorem below_onl {A : Nat → Prop} {w0 w w' : World} (hb : Below w0.heap.size w0 w) (h : Onl A w w') (hA : ∀ k, A k → w0.heap.size ≤ k) : Below w0.heap.size w0 w' :=
  ⟨h.os.trans hb.os, h.tape.trans hb.tape, h.output.trans hb.output, Nat.le_trans hb.size h.size, fun k hk => by
    rw [h.block k (Nat.lt_of_lt_of_le hk hb.size) (fun e => by have := hA k e; omega)]; exact hb.block k hk⟩
set_option maxHeartbeats 1000000 in
theorem shortens_any (p q : Nat) (a b l : Int) (w : World) (hl : -100 ≤ l ∧ l ≤ 100) (ha : -100000 ≤ a ∧ a ≤ 0) (hb : -100000 ≤ b ∧ b ≤ 0) (hp : Boxed w p 129 (.int .i64 a)) (hq : Boxed w q 129 (.int .i64 b)) :
    Calls Tryz.prog 116 #[.agg #[.pointer (some ⟨p, 0, none⟩), .pointer (some ⟨q, 0, none⟩), .int .i64 l]] w fun e w' => e = .returned (.bool (decide (a + l < b))) ∧ Boxed w' q 129 (.int .i64 (if a + l < b then a + l else b)) ∧ Onl (fun k => a + l < b ∧ k = q) w w' := by
  obtain ⟨h1, h2⟩ := hl
  obtain ⟨h3, h4⟩ := ha
  obtain ⟨h5, h6⟩ := hb
  have hcp := hp.cell
  have hcq := hq.cell
  have hfq := hq.frozen
  have hlp := hp.lt
  have hlq := hq.lt
  have HQ := hide hq
  clear hp hq
  by_cases hlt : a + l < b
  · have HL := hide hlt
    have HIF : Hid ((if a + l < b then a + l else b) = a + l) := hide (if_pos hlt)
    have HDD : Hid (decide (a + l < b) = true) := hide (decide_eq_true hlt)
    rw [HIF.out, HDD.out]
    go_enter Tryz.func116, Tryz.ntmps116
    go_wp2
    go_quiet (fail)
    go_wp2
    go_ret
    have h0 : Boxed ((w.alloc (.cells #[.pointer (some ⟨p, 0, none⟩), .pointer (some ⟨q, 0, none⟩), .int .i64 l] 132)).drewN nq) q 129 (.int .i64 b) := HQ.out.alloc _
    have hb0 : Below w.heap.size w ((w.alloc (.cells #[.pointer (some ⟨p, 0, none⟩), .pointer (some ⟨q, 0, none⟩), .int .i64 l] 132)).drewN nq) := below_draws ((Below.refl _ w).alloc (Nat.le_refl _) _) nq
    refine ⟨rfl, h0.set _, hb0.os, hb0.tape, hb0.output, Nat.le_trans hb0.size (by simp [World.setCell]), fun k hk hn => ?_⟩
    rw [Below.heap_setCell _ _ _ _ (fun e => hn ⟨HL.out, e⟩)]
    exact hb0.block k hk
  · have HL := hide hlt
    have HIF : Hid ((if a + l < b then a + l else b) = b) := hide (if_neg hlt)
    have HDD : Hid (decide (a + l < b) = false) := hide (decide_eq_false hlt)
    rw [HIF.out, HDD.out]
    go_enter Tryz.func116, Tryz.ntmps116
    go_wp2
    go_quiet (fail)
    go_wp2
    go_ret
    have h0 : Boxed ((w.alloc (.cells #[.pointer (some ⟨p, 0, none⟩), .pointer (some ⟨q, 0, none⟩), .int .i64 l] 132)).drewN nq) q 129 (.int .i64 b) := HQ.out.alloc _
    exact ⟨rfl, h0, onl_below (below_draws ((Below.refl _ w).alloc (Nat.le_refl _) _) nq)⟩
end Go.Proofs.YtcliiefedmiokaaGreat
/-
  A round over the steps: shortened.
-/
namespace Go.Proofs.YtcliiefedmiokaaGreat
open Go.RowKit

/-- The cells of steps that lie one behind the other; B: the blocks of the places. -/
def cellsE (B : Nat → Nat) (E : List Edge) : List Value := E.flatMap fun e => [.pointer (some ⟨B e.s, 0, none⟩), .pointer (some ⟨B e.t, 0, none⟩), .int .i64 e.l]
theorem cellsE_len (B : Nat → Nat) (E : List Edge) : (cellsE B E).length = E.length * 3 := by
  induction E with
  | nil => rfl
  | cons e E ih =>
    simp only [cellsE, List.flatMap_cons, List.length_append, List.length_cons, List.length_nil] at ih ⊢
    omega
theorem cellsE_snoc (B : Nat → Nat) (E : List Edge) (e : Edge) : cellsE B (E ++ [e]) = cellsE B E ++ [.pointer (some ⟨B e.s, 0, none⟩), .pointer (some ⟨B e.t, 0, none⟩), .int .i64 e.l] := by
  simp [cellsE]
theorem cellsE_at (B : Nat → Nat) : ∀ (E : List Edge) (i : Nat) (h : i < E.length), (cellsE B E)[i * 3]? = some (.pointer (some ⟨B E[i].s, 0, none⟩)) ∧ (cellsE B E)[i * 3 + 1]? = some (.pointer (some ⟨B E[i].t, 0, none⟩)) ∧ (cellsE B E)[i * 3 + 2]? = some (.int .i64 E[i].l)
  | [], i, h => absurd h (Nat.not_lt_zero _)
  | e :: E, 0, _ => ⟨rfl, rfl, rfl⟩
  | e :: E, i + 1, h => by
    have := cellsE_at B E i (by simpa using h)
    have e1 : cellsE B (e :: E) = [.pointer (some ⟨B e.s, 0, none⟩), .pointer (some ⟨B e.t, 0, none⟩), .int .i64 e.l] ++ cellsE B E := by simp [cellsE]
    rw [e1]
    simp only [List.getElem_cons_succ]
    refine ⟨?_, ?_, ?_⟩
    · rw [List.getElem?_append_right (by simp; omega)]
      simpa [show (i + 1) * 3 - 3 = i * 3 by omega] using this.1
    · rw [List.getElem?_append_right (by simp; omega)]
      simpa [show (i + 1) * 3 + 1 - 3 = i * 3 + 1 by omega] using this.2.1
    · rw [List.getElem?_append_right (by simp; omega)]
      simpa [show (i + 1) * 3 + 2 - 3 = i * 3 + 2 by omega] using this.2.2
def OwnE (w : World) (lo : Nat) (v : Value) (B : Nat → Nat) (E : List Edge) : Prop := w.ownsRow lo 132 3 v E.length (cellsE B E)
/-- The places with their lengths. -/
structure Net (w : World) (n : Nat) (B : Nat → Nat) (d : Nat → Int) : Prop where
  box : ∀ v, v < n → Boxed w (B v) 129 (.int .i64 (d v))
  inj : ∀ u v, u < n → v < n → B u = B v → u = v
/-- The blocks of the places. -/
def InB (n : Nat) (B : Nat → Nat) (k : Nat) : Prop := ∃ v, v < n ∧ k = B v
theorem net_below {w w' : World} {n : Nat} {B : Nat → Nat} {d : Nat → Int} (h : Net w n B d) (hb : Below w.heap.size w w') : Net w' n B d := ⟨fun v hv => (hb.block _ (h.box v hv).lt).trans (h.box v hv), h.inj⟩
theorem net_rx {w w' : World} {n : Nat} {B : Nat → Nat} {d : Nat → Int} {f : Bool} {e : Edge} (h : Net w n B d) (ht : e.t < n) (hb : Boxed w' (B e.t) 129 (.int .i64 (if d e.s + e.l < d e.t then d e.s + e.l else d e.t))) (ho : Onl (fun k => d e.s + e.l < d e.t ∧ k = B e.t) w w') : Net w' n B (rx (d, f) e).1 := by
  refine ⟨fun v hv => ?_, h.inj⟩
  have hval : (rx (d, f) e).1 v = if v = e.t then (if d e.s + e.l < d e.t then d e.s + e.l else d e.t) else d v := by
    unfold rx
    by_cases hlt : d e.s + e.l < d e.t
    · simp only [if_pos hlt, updD]
    · simp only [if_neg hlt]
      split
      · rename_i e1; rw [e1]
      · rfl
  rw [hval]
  by_cases e1 : v = e.t
  · rw [if_pos e1, e1]; exact hb
  · rw [if_neg e1]
    exact (ho.block _ (h.box v hv).lt (fun hx => e1 (h.inj v e.t hv ht hx.2))).trans (h.box v hv)
/-- What lies in blocks of another type stays. -/
theorem own_onl {w w' : World} {base T z m n : Nat} {v : Value} {xs : List Value} {B : Nat → Nat} {d : Nat → Int} (h : w.ownsRow base T z v m xs) (hN : Net w n B d) (hT : 129 ≠ T) (ho : Onl (InB n B) w w') : w'.ownsRow base T z v m xs := by
  refine ⟨h.1, ?_⟩
  rcases h.2 with hn | ⟨g, cap, cur, hv, hbg, hg, r⟩
  · exact .inl hn
  · refine .inr ⟨g, cap, cur, hv, hbg, ?_, r⟩
    rw [ho.block g (Array.getElem?_eq_some_iff.1 hg).1 (fun hx => ?_)]
    · exact hg
    · obtain ⟨u, hu, he⟩ := hx
      have h2 := hN.box u hu
      unfold Boxed at h2
      rw [← he, hg] at h2
      simp only [Option.some.injEq, Obj.cells.injEq] at h2
      exact hT h2.2.1.symm
theorem rxs_low {n : Nat} : ∀ (F : List Edge) (p : (Nat → Int) × Bool) (M : Int), (∀ v, v < n → -M ≤ p.1 v) → (∀ e ∈ F, e.s < n ∧ -100 ≤ e.l) → ∀ v, v < n → -(M + 100 * F.length) ≤ (rxs F p).1 v
  | [], p, M, h, _, v, hv => by
    have := h v hv
    show -(M + 100 * ((([] : List Edge).length : Nat) : Int)) ≤ p.1 v
    rw [List.length_nil]
    omega
  | e :: F, p, M, h, hF, v, hv => by
    have h1 := rxs_low F (rx p e) (M + 100) (fun u hu => by
      have h2 := h u hu
      unfold rx
      split
      · simp only [updD]; split
        · have h3 := h e.s (hF e List.mem_cons_self).1
          have h4 := (hF e List.mem_cons_self).2
          omega
        · omega
      · omega) (fun x hx => hF x (List.mem_cons_of_mem _ hx)) v hv
    have e1 : ((e :: F).length : Int) = (F.length : Int) + 1 := by simp
    show -(M + 100 * ((e :: F).length : Int)) ≤ (rxs F (rx p e)).1 v
    rw [e1]
    omega
set_option maxRecDepth 100000 in
set_option maxHeartbeats 2000000 in
theorem shortened_any (vs : Value) (n lo M : Nat) (B : Nat → Nat) (d : Nat → Int) (E : List Edge) (w : World) (hN : Net w n B d) (hE : OwnE w lo vs B E) (hin : ∀ e ∈ E, e.s < n ∧ e.t < n ∧ -100 ≤ e.l ∧ e.l ≤ 100) (h0 : 0 < E.length) (hlen : E.length ≤ 25) (hd : ∀ v, v < n → -(M : Int) ≤ d v ∧ d v ≤ 0) (hM : M ≤ 90000) :
    Calls Tryz.prog 77 #[vs] w fun e w' => e = .returned (.bool (rxs E (d, false)).2) ∧ Net w' n B (rxs E (d, false)).1 ∧ Onl (InB n B) w w' := by
  obtain ⟨g, cap, rfl, -, hg, -, -, -, -⟩ := ownA_some hE (by omega)
  have HE := hide hE; have HN := hide hN; have HIN := hide hin; have HD := hide hd
  obtain ⟨K, hK⟩ : ∃ K, K = E.length := ⟨_, rfl⟩
  have HK := hide hK
  have hK5 : K ≤ 25 := by omega
  rw [← hK]
  clear hN hE hin hlen hd h0 hK
  go_enter Tryz.func77, Tryz.ntmps77
  go_wp2
  go_loopw [3, 8] (fun f i w' => ∃ k : Nat, k ≤ K ∧ i = .int .i64 k ∧ f = .bool (rxs (E.take k) (d, false)).2 ∧ Net w' n B (rxs (E.take k) (d, false)).1 ∧ Onl (InB n B) w w') (fun _ i _ => K - (intOf i).toNat)
  case atStart => exact ⟨0, Nat.zero_le _, rfl, rfl, HN.out, onl_refl _ _⟩
  case round =>
    obtain ⟨k, hk, rfl, rfl, hnet, hon⟩ := hrel
    have HNET := hide hnet; have HON := hide hon
    clear hnet hon
    by_cases hlt : k < K
    · have hk' : k < E.length := by have := HK.out; omega
      have hown := own_onl HE.out HN.out (by decide) HON.out
      obtain ⟨q1, q2, q3⟩ := cellsE_at B E k hk'
      have hlk : k * 3 + 2 < E.length * 3 := by omega
      have hc1 : wr.cell? ⟨g, k * 3, none⟩ = some (.pointer (some ⟨B E[k].s, 0, none⟩)) := by rw [hown.cellAt _ (by omega)]; exact q1
      have hc2 : wr.cell? ⟨g, k * 3 + 1, none⟩ = some (.pointer (some ⟨B E[k].t, 0, none⟩)) := by rw [hown.cellAt _ (by omega)]; exact q2
      have hc3 : wr.cell? ⟨g, k * 3 + 2, none⟩ = some (.int .i64 E[k].l) := by rw [hown.cellAt _ (by omega)]; exact q3
      have hTS : rxs (E.take (k + 1)) (d, false) = rx (rxs (E.take k) (d, false)) E[k] := by
        rw [List.take_succ_eq_append_getElem hk', rxs_append]; rfl
      have hlow := fun v hv => rxs_low (E.take k) (d, false) (M : Int) (fun u hu => (HD.out u hu).1) (fun e he => by have := HIN.out e (List.mem_of_mem_take he); exact ⟨this.1, this.2.2.1⟩) v hv
      have hup := fun v hv => Int.le_trans (rxs_le (E.take k) (d, false) v) (HD.out v hv).2
      have hlen : ((E.take k).length : Int) ≤ 25 := by rw [List.length_take]; omega
      obtain ⟨i1, i2, i3, i4⟩ := HIN.out E[k] (List.getElem_mem hk')
      obtain ⟨e, he⟩ : ∃ e, e = E[k] := ⟨_, rfl⟩
      rw [← he] at hc1 hc2 hc3 hTS i1 i2 i3 i4
      obtain ⟨D, hD⟩ : ∃ D, D = (rxs (E.take k) (d, false)).1 := ⟨_, rfl⟩
      obtain ⟨fl, hfl⟩ : ∃ fl, fl = (rxs (E.take k) (d, false)).2 := ⟨_, rfl⟩
      have hDF : rxs (E.take k) (d, false) = (D, fl) := by rw [hD, hfl]
      rw [hDF] at hTS
      rw [← hD] at hlow hup HNET
      rw [← hfl]
      have a1 := hlow e.s i1; have a2 := hup e.s i1; have a3 := hlow e.t i2; have a4 := hup e.t i2
      obtain ⟨w2, hw2⟩ : ∃ w2, w2 = wr.alloc (.cells #[.pointer (some ⟨B e.s, 0, none⟩), .pointer (some ⟨B e.t, 0, none⟩), .int .i64 e.l] 132) := ⟨_, rfl⟩
      have hb2 : Below wr.heap.size wr w2 := by rw [hw2]; exact (Below.refl _ _).alloc (Nat.le_refl _) _
      have HS := hide (shortens_any (B e.s) (B e.t) (D e.s) (D e.t) e.l w2 ⟨i3, i4⟩ ⟨by omega, a2⟩ ⟨by omega, a4⟩ ((net_below HNET.out hb2).box e.s i1) ((net_below HNET.out hb2).box e.t i2))
      have HTS := hide hTS
      have HN2 := hide (net_below HNET.out hb2)
      have HO2 := hide (onl_trans HON.out (onl_below (A := InB n B) hb2) (fun _ h => h) (fun _ h => h))
      have i2' := i2
      clear q1 q2 q3 hTS hlow hup hDF hD hfl he hlen hown a1 a2 a3 a4 hb2 hlk
      obtain ⟨s1, hs1⟩ : ∃ s1, s1 = B e.s := ⟨_, rfl⟩
      obtain ⟨t1, ht1⟩ : ∃ t1, t1 = B e.t := ⟨_, rfl⟩
      obtain ⟨l1, hl1⟩ : ∃ l1, l1 = e.l := ⟨_, rfl⟩
      rw [← hs1] at hc1 HS hw2
      rw [← ht1] at hc2 HS hw2
      rw [← hl1] at hc3 hw2
      have HT1 := hide ht1; have HL1 := hide hl1
      rw [← hl1] at HS
      clear hs1 ht1 hl1 i1 i2 i3 i4
      go_wp2_with fail
      rw [← hw2]
      clear hw2
      refine HS.out.mono ?_
      rintro e3 w3 ⟨rfl, h1, h2⟩
      have HN3 := hide (show Net w3 n B (rxs (E.take (k + 1)) (d, false)).1 by
        rw [HTS.out]
        rw [HT1.out, HL1.out] at h1
        rw [HT1.out, HL1.out] at h2
        exact net_rx HN2.out i2' h1 h2)
      have HO3 := hide (onl_trans HO2.out h2 (fun _ h => h) (fun i hi => show InB n B i from ⟨e.t, i2', by rw [← HT1.out]; exact hi.2⟩))
      clear h1 h2
      by_cases hl : D e.s + l1 < D e.t
      · have HF3 : Hid ((rxs (E.take (k + 1)) (d, false)).2 = true) := hide (by rw [HTS.out]; unfold rx; rw [← HL1.out, if_pos hl])
        rw [decide_eq_true hl]
        clear hl
        go_wp2
        go_roundw
        case rel => exact ⟨k + 1, by omega, by go_num, by rw [HF3.out], HN3.out, HO3.out⟩
        case measure => simp [intOf]; omega
      · have HF3 : Hid ((rxs (E.take (k + 1)) (d, false)).2 = fl) := hide (by rw [HTS.out]; unfold rx; rw [← HL1.out, if_neg hl])
        rw [decide_eq_false hl]
        clear hl
        go_wp2
        go_roundw
        case rel => exact ⟨k + 1, by omega, by go_num, by rw [HF3.out], HN3.out, HO3.out⟩
        case measure => simp [intOf]; omega
    · have hkE : E.take k = E := List.take_of_length_le (by have := HK.out; omega)
      rw [hkE] at HNET ⊢
      go_wp2
      go_ret
      exact ⟨rfl, HNET.out, HON.out⟩
end Go.Proofs.YtcliiefedmiokaaGreat
