/-
  Texts of this claim, one behind the other: Sums, TotT, Swap, LawsQ, Conj, SortL, Top, AppR, Fill.
-/
import Derived.Test.YtinhdcchfeokpaaPackC
import Derived.Test.YtinhdcchfeokpaaPackB
import Derived.Sort.LotA
import Derived.Test.YtinhdcchfeokpaaPackA
/-
  SumsOk, of the model and of the program.
-/
namespace Go.Proofs.Ytinhdcchfeokpaa
open Go.RowKit

def badB (most x : Int) : Bool := decide (x < 0) || decide (most < x)
theorem any_no {p : Int → Bool} {r : List Int} (h : ∀ i, (hi : i < r.length) → p r[i] = false) : r.any p = false := by
  rw [Bool.eq_false_iff]; intro e
  rw [List.any_eq_true] at e
  obtain ⟨x, hx, hp⟩ := e
  obtain ⟨i, hi, rfl⟩ := List.getElem_of_mem hx
  rw [h i hi] at hp; cases hp
theorem any_yes {p : Int → Bool} {r : List Int} (i : Nat) (hi : i < r.length) (h : p r[i] = true) : r.any p = true := List.any_eq_true.2 ⟨_, List.getElem_mem hi, h⟩

set_option maxHeartbeats 400000 in
theorem bad_any (x most : Int) (g : Nat) (w : World) (hc : w.cell? ⟨g, 0, none⟩ = some (.int .i64 most)) :
    Calls Try.prog 30 #[.int .i64 x, .pointer (some ⟨g, 0, none⟩)] w fun e w' => e = .returned (.bool (badB most x)) ∧ w = w' := by
  have HB : Hid (badB most x = (decide (x < 0) || decide (most < x))) := hide rfl
  by_cases h1 : x < 0
  · go_enter Try.func30, Try.ntmps30
    go_wp2
    go_ret
    exact ⟨ret_bool (by rw [HB.out]; simp [h1]), rfl⟩
  · go_enter Try.func30, Try.ntmps30
    go_wp2
    go_ret
    exact ⟨ret_bool (by rw [HB.out]; simp; omega), rfl⟩

def IdxRes (b : Bool) (w : World) (e : Ending) (w' : World) : Prop := ∃ i : Int, e = .returned (.int .i64 i) ∧ -1 ≤ i ∧ b = decide (0 ≤ i) ∧ w = w'
set_option maxHeartbeats 1000000 in
theorem indexFunc_any (v : Value) (r : List Int) (most : Int) (q : Nat) (w : World) (hin : InRow w v r) (hq : w.cell? ⟨q, 0, none⟩ = some (.int .i64 most)) :
    Calls Try.prog 36 #[v, .func (.func 30) #[] #[.pointer (some ⟨q, 0, none⟩)]] w (IdxRes (r.any (badB most)) w) := by
  obtain ⟨a, c, rfl, hm, hp⟩ := hin
  unfold maxLen at hm
  by_cases h0 : r.length = 0
  · have hr : r = [] := List.eq_nil_of_length_eq_zero h0
    subst hr
    clear hp h0 hm
    go_enter Try.func36, Try.ntmps36
    go_wp2
    go_loop [8] (fun i => i = .int .i64 0) (fun _ => 0)
    case atStart => rfl
    case round =>
      obtain rfl := hrel
      go_wp2
      go_ret
      exact ⟨-1, rfl, by omega, rfl, rfl⟩
  · obtain ⟨g, o, rfl, hg, hc⟩ := hp.resolve_left h0
    have HC := hide hc
    obtain ⟨n, hn⟩ : ∃ n, n = r.length := ⟨_, rfl⟩
    have HN := hide hn
    rw [← hn] at hm ⊢
    clear hp hc h0 hn
    go_enter Try.func36, Try.ntmps36
    go_wp2
    go_loop [8] (fun i => ∃ k : Nat, k ≤ n ∧ i = .int .i64 k ∧ ∀ t, (h : t < r.length) → t < k → badB most r[t] = false) (fun i => n - (intOf i).toNat)
    case atStart => exact ⟨0, Nat.zero_le _, rfl, fun t _ h => absurd h (Nat.not_lt_zero _)⟩
    case round =>
      obtain ⟨k, hk, rfl, hall⟩ := hrel
      have HA := hide hall
      clear hall
      by_cases hlt : k < n
      · have hk' : k < r.length := by rw [← HN.out]; exact hlt
        have hx := HC.out k hk'
        have HNO := hide (fun h => any_yes (p := badB most) k hk' h)
        have HST : Hid (badB most r[k] = false → ∀ t, (h : t < r.length) → t < k + 1 → badB most r[t] = false) := hide fun h t h1 ht => by
          by_cases e : t = k
          · subst e; exact h
          · exact HA.out t h1 (by omega)
        obtain ⟨x, hxx⟩ : ∃ x, x = r[k] := ⟨_, rfl⟩
        rw [← hxx] at hx HNO HST
        clear hxx
        cases e : badB most x with
        | true =>
          have HE := hide e
          have HF := hide (HNO.out e)
          clear e
          go_wp2_with (go_at_call 30; refine (bad_any _ most q _ hq).mono ?_; rw [HE.out]; rintro e w9 ⟨rfl, rfl⟩)
          go_ret
          exact ⟨k, rfl, by omega, by rw [HF.out]; simp, rfl⟩
        | false =>
          have HE := hide e
          have HST := hide (HST.out e)
          clear e
          go_wp2_with (go_at_call 30; refine (bad_any _ most q _ hq).mono ?_; rw [HE.out]; rintro e w9 ⟨rfl, rfl⟩)
          go_round
          case rel => exact ⟨k + 1, by omega, by go_num, HST.out⟩
          case measure => simp [intOf]; omega
      · have HY := hide (any_no (p := badB most) fun t h => HA.out t h (by have := HN.out; omega))
        go_wp2
        go_ret
        exact ⟨-1, rfl, by omega, by rw [HY.out]; rfl, rfl⟩

set_option maxHeartbeats 400000 in
theorem containsFunc_any (v : Value) (r : List Int) (most : Int) (q : Nat) (w : World) (hin : InRow w v r) (hq : w.cell? ⟨q, 0, none⟩ = some (.int .i64 most)) :
    Calls Try.prog 29 #[v, .func (.func 30) #[] #[.pointer (some ⟨q, 0, none⟩)]] w fun e w' => e = .returned (.bool (r.any (badB most))) ∧ w = w' := by
  have HI := hide hin; have HQ := hide hq
  clear hin hq
  go_enter Try.func29, Try.ntmps29
  go_wp2_with fail
  refine (indexFunc_any v r most q _ HI.out HQ.out).mono ?_
  rintro e w1 ⟨i, rfl, hi, hb, rfl⟩
  have HB := hide hb
  clear hb
  by_cases h : 0 ≤ i
  · go_wp2
    go_ret
    exact ⟨ret_bool (by rw [HB.out]; simp [h]), rfl⟩
  · go_wp2
    go_ret
    exact ⟨ret_bool (by rw [HB.out]), rfl⟩

theorem sumsInRange_any (v : Value) (r : List Int) (most : Int) (w : World) (hin : InRow w v r) :
    Calls Try.prog 19 #[v, .int .i64 most] w fun e w' => e = .returned (.bool (!r.any (badB most))) ∧ Below w.heap.size w w' := by
  have HB := hide ((Below.refl w.heap.size w).alloc (Nat.le_refl _) (.cells #[.int .i64 most] 3))
  have HI := hide (inRow_below hin HB.out)
  have HQ := hide (show (w.alloc (.cells #[.int .i64 most] 3)).cell? ⟨w.heap.size, 0, none⟩ = some (.int .i64 most) by simp [World.cell?_alloc_new])
  clear hin
  go_enter Try.func19, Try.ntmps19
  go_wp2_with fail
  refine (containsFunc_any v r most w.heap.size _ HI.out HQ.out).mono ?_
  rintro e w1 ⟨rfl, rfl⟩
  go_wp2
  go_ret
  exact ⟨rfl, HB.out⟩

theorem sum_snoc (r : List Int) (k : Nat) (h : k < r.length) : (r.take (k + 1)).sum = (r.take k).sum + r[k] := by
  rw [List.take_succ_eq_append_getElem h, List.sum_append]; simp
def SmallL (r : List Int) : Prop := r.length ≤ 5 ∧ ∀ i, (h : i < r.length) → 0 ≤ r[i] ∧ r[i] ≤ 5
theorem sum_small {r : List Int} (h : SmallL r) : ∀ k, k ≤ r.length → 0 ≤ (r.take k).sum ∧ (r.take k).sum ≤ 5 * k := by
  intro k
  induction k with
  | zero => intro _; simp
  | succ k ih =>
    intro hk
    have := ih (by omega)
    have := h.2 k (by omega)
    rw [sum_snoc r k (by omega)]; omega
set_option maxHeartbeats 400000 in
theorem totalOf_any (v : Value) (r : List Int) (w : World) (hin : InRow w v r) (hs : SmallL r) :
    Calls Try.prog 28 #[v] w fun e w' => e = .returned (.int .i64 r.sum) ∧ w = w' := by
  obtain ⟨a, c, rfl, hm, hp⟩ := hin
  unfold maxLen at hm
  have HS := hide hs
  by_cases h0 : r.length = 0
  · have hr : r = [] := List.eq_nil_of_length_eq_zero h0
    subst hr
    clear hp h0 hm hs
    go_enter Try.func28, Try.ntmps28
    go_wp2
    go_loop [3, 8] (fun s i => s = .int .i64 0 ∧ i = .int .i64 0) (fun _ _ => 0)
    case atStart => exact ⟨rfl, rfl⟩
    case round =>
      obtain ⟨rfl, rfl⟩ := hrel
      go_wp2
      go_ret
      exact ⟨rfl, rfl⟩
  · obtain ⟨g, o, rfl, hg, hc⟩ := hp.resolve_left h0
    have HC := hide hc
    have h5 := hs.1
    obtain ⟨n, hn⟩ : ∃ n, n = r.length := ⟨_, rfl⟩
    have HN := hide hn
    rw [← hn] at hm h5 ⊢
    clear hp hc h0 hn hs
    go_enter Try.func28, Try.ntmps28
    go_wp2
    go_loop [3, 8] (fun s i => ∃ k : Nat, k ≤ n ∧ i = .int .i64 k ∧ s = .int .i64 (r.take k).sum) (fun _ i => n - (intOf i).toNat)
    case atStart => exact ⟨0, Nat.zero_le _, rfl, rfl⟩
    case round =>
      obtain ⟨k, hk, rfl, rfl⟩ := hrel
      obtain ⟨b1, b2⟩ := sum_small HS.out k (by rw [← HN.out]; exact hk)
      by_cases hlt : k < n
      · have hk' : k < r.length := by rw [← HN.out]; exact hlt
        have hx := HC.out k hk'
        have HST := hide (sum_snoc r k hk')
        obtain ⟨b3, b4⟩ := HS.out.2 k hk'
        obtain ⟨x, hxx⟩ : ∃ x, x = r[k] := ⟨_, rfl⟩
        obtain ⟨S, hSS⟩ : ∃ S, S = (r.take k).sum := ⟨_, rfl⟩
        rw [← hxx] at hx HST b3 b4
        rw [← hSS] at HST b1 b2 ⊢
        clear hxx hSS
        go_wp2
        go_round
        case rel => exact ⟨k + 1, by omega, by go_num, by rw [HST.out]⟩
        case measure => simp [intOf]; omega
      · have HE : Hid ((r.take k).sum = r.sum) := hide (by rw [List.take_of_length_le (by have := HN.out; omega)])
        rw [HE.out]
        clear b1 b2
        go_wp2
        go_ret
        exact ⟨rfl, rfl⟩

set_option maxHeartbeats 400000 in
theorem l03Total_any (v : Value) (r : List Int) (w : World) (hin : InRow w v r) (hs : SmallL r) :
    Calls Try.prog 27 #[v] w fun e w' => e = .returned (.int .i64 r.sum) ∧ w = w' := by
  obtain ⟨a, c, rfl, hm, hp⟩ := hin
  unfold maxLen at hm
  have HS := hide hs
  by_cases h0 : r.length = 0
  · have hr : r = [] := List.eq_nil_of_length_eq_zero h0
    subst hr
    clear hp h0 hm hs
    go_enter Try.func27, Try.ntmps27
    go_wp2
    go_loop [3, 8] (fun s i => s = .int .i64 0 ∧ i = .int .i64 0) (fun _ _ => 0)
    case atStart => exact ⟨rfl, rfl⟩
    case round =>
      obtain ⟨rfl, rfl⟩ := hrel
      go_wp2
      go_ret
      exact ⟨rfl, rfl⟩
  · obtain ⟨g, o, rfl, hg, hc⟩ := hp.resolve_left h0
    have HC := hide hc
    have h5 := hs.1
    obtain ⟨n, hn⟩ : ∃ n, n = r.length := ⟨_, rfl⟩
    have HN := hide hn
    rw [← hn] at hm h5 ⊢
    clear hp hc h0 hn hs
    go_enter Try.func27, Try.ntmps27
    go_wp2
    go_loop [3, 8] (fun s i => ∃ k : Nat, k ≤ n ∧ i = .int .i64 k ∧ s = .int .i64 (r.take k).sum) (fun _ i => n - (intOf i).toNat)
    case atStart => exact ⟨0, Nat.zero_le _, rfl, rfl⟩
    case round =>
      obtain ⟨k, hk, rfl, rfl⟩ := hrel
      obtain ⟨b1, b2⟩ := sum_small HS.out k (by rw [← HN.out]; exact hk)
      by_cases hlt : k < n
      · have hk' : k < r.length := by rw [← HN.out]; exact hlt
        have hx := HC.out k hk'
        have HST := hide (sum_snoc r k hk')
        obtain ⟨b3, b4⟩ := HS.out.2 k hk'
        obtain ⟨x, hxx⟩ : ∃ x, x = r[k] := ⟨_, rfl⟩
        obtain ⟨S, hSS⟩ : ∃ S, S = (r.take k).sum := ⟨_, rfl⟩
        rw [← hxx] at hx HST b3 b4
        rw [← hSS] at HST b1 b2 ⊢
        clear hxx hSS
        go_wp2
        go_round
        case rel => exact ⟨k + 1, by omega, by go_num, by rw [HST.out]⟩
        case measure => simp [intOf]; omega
      · have HE : Hid ((r.take k).sum = r.sum) := hide (by rw [List.take_of_length_le (by have := HN.out; omega)])
        rw [HE.out]
        clear b1 b2
        go_wp2
        go_ret
        exact ⟨rfl, rfl⟩

/-- What SumsOk returns. -/
def sumsOk (r c : List Int) : Bool := sizeOk r.length c.length && !r.any (badB c.length) && !c.any (badB r.length) && r.sum == c.sum
theorem small_of {r : List Int} {m : Int} (hl : r.length ≤ 5) (hm : m ≤ 5) (h : r.any (badB m) = false) : SmallL r := by
  refine ⟨hl, fun i hi => ?_⟩
  rw [List.any_eq_false] at h
  have := h _ (List.getElem_mem hi)
  simp only [badB, Bool.or_eq_true, decide_eq_true_eq, not_or] at this
  omega
theorem bad_in (m x : Int) : decide (0 ≤ x ∧ x ≤ m) = !badB m x := by
  unfold badB
  by_cases h : 0 ≤ x ∧ x ≤ m
  · rw [decide_eq_true h, decide_eq_false (by omega), decide_eq_false (by omega)]; rfl
  · rw [decide_eq_false h]
    by_cases h1 : x < 0
    · rw [decide_eq_true h1]; rfl
    · rw [decide_eq_false h1, decide_eq_true (by omega : m < x)]; rfl
end Go.Proofs.Ytinhdcchfeokpaa
/-
  total of the laws, at more and greater numbers.
-/
namespace Go.Proofs.Ytinhdcchfeokpaa
open Go.RowKit

def SmallT (r : List Int) : Prop := r.length ≤ 100 ∧ ∀ i, (h : i < r.length) → 0 ≤ r[i] ∧ r[i] ≤ 100
theorem sum_smallT {r : List Int} (h : SmallT r) : ∀ k, k ≤ r.length → 0 ≤ (r.take k).sum ∧ (r.take k).sum ≤ 100 * k := by
  intro k
  induction k with
  | zero => intro _; simp
  | succ k ih =>
    intro hk
    have hk' : k < r.length := by omega
    have h1 := ih (by omega)
    have h2 := h.2 k hk'
    rw [List.take_succ_eq_append_getElem hk', List.sum_append]
    simp only [List.sum_cons, List.sum_nil]
    omega

end Go.Proofs.Ytinhdcchfeokpaa
/-
  Switches, pure: the four cells, an image after a switch, lists of switches in order, paths.
-/
namespace Go.Proofs.Ytinhdcchfeokpaa

/-- A switch: two rows and two columns. -/
structure Sw where
  y1 : Int
  y2 : Int
  x1 : Int
  x2 : Int
instance : DecidableEq Sw := fun a b =>
  if h : a.y1 = b.y1 ∧ a.y2 = b.y2 ∧ a.x1 = b.x1 ∧ a.x2 = b.x2 then isTrue (by obtain ⟨a1, a2, a3, a4⟩ := a; obtain ⟨b1, b2, b3, b4⟩ := b; simp only at h; obtain ⟨rfl, rfl, rfl, rfl⟩ := h; rfl)
  else isFalse fun e => h (by rw [e]; exact ⟨rfl, rfl, rfl, rfl⟩)
def zeroSw : Sw := ⟨0, 0, 0, 0⟩
/-- The cell of a list. -/
def cellM (m : List (List Int)) (y x : Nat) : Int := (m.getD y []).getD x 0
theorem cell_mk (R C : Nat) (f : Nat → Nat → Int) {y x : Nat} (hy : y < R) (hx : x < C) : cellM (mkM R C f) y x = f y x := by
  simp [cellM, mkM, rowF, hy, hx]
theorem mk_cell (R C : Nat) (f : Nat → Nat → Int) : mkM R C (cellM (mkM R C f)) = mkM R C f := mkM_congr fun _ _ hy hx => cell_mk R C f hy hx
/-- The four cells of a switch, by number. -/
def four (R C : Nat) (f : Nat → Nat → Int) (a b c d : Nat) : Bool :=
  decide (a < b) && decide (c < d) && decide (b < R) && decide (d < C) && decide (f b d = f a c) && decide (f a d = 1 - f a c) && decide (f b c = 1 - f a c)
theorem four_iff {R C : Nat} {f : Nat → Nat → Int} {a b c d : Nat} : four R C f a b c d = true ↔ a < b ∧ c < d ∧ b < R ∧ d < C ∧ f b d = f a c ∧ f a d = 1 - f a c ∧ f b c = 1 - f a c := by
  simp [four, Bool.and_eq_true, and_assoc]
/-- A switch of an image. -/
def swF (R C : Nat) (f : Nat → Nat → Int) (s : Sw) : Bool :=
  decide (0 ≤ s.y1) && decide (0 ≤ s.x1) && decide (s.y1 < s.y2) && decide (s.x1 < s.x2) && four R C f s.y1.toNat s.y2.toNat s.x1.toNat s.x2.toNat
theorem swF_iff {R C : Nat} {f : Nat → Nat → Int} {s : Sw} : swF R C f s = true ↔ ∃ a b c d : Nat, s = ⟨a, b, c, d⟩ ∧ four R C f a b c d = true := by
  constructor
  · intro h
    simp only [swF, Bool.and_eq_true, decide_eq_true_eq] at h
    obtain ⟨⟨⟨⟨h1, h2⟩, h3⟩, h4⟩, h5⟩ := h
    refine ⟨_, _, _, _, ?_, h5⟩
    obtain ⟨y1, y2, x1, x2⟩ := s
    simp only at h1 h2 h3 h4 ⊢
    rw [Int.toNat_of_nonneg h1, Int.toNat_of_nonneg (by omega), Int.toNat_of_nonneg h2, Int.toNat_of_nonneg (by omega)]
  · rintro ⟨a, b, c, d, rfl, h⟩
    have := four_iff.1 h
    simp only [swF, Bool.and_eq_true, decide_eq_true_eq]
    exact ⟨⟨⟨⟨by omega, by omega⟩, by omega⟩, by omega⟩, by simpa using h⟩
theorem four_congr {R C : Nat} {f g : Nat → Nat → Int} (h : ∀ y x, y < R → x < C → f y x = g y x) (a b c d : Nat) : four R C f a b c d = four R C g a b c d := by
  rw [Bool.eq_iff_iff, four_iff, four_iff]
  constructor
  · rintro ⟨h1, h2, h3, h4, h5⟩
    rw [h b d h3 h4, h a c (by omega) (by omega), h a d (by omega) h4, h b c h3 (by omega)] at h5
    exact ⟨h1, h2, h3, h4, h5⟩
  · rintro ⟨h1, h2, h3, h4, h5⟩
    rw [← h b d h3 h4, ← h a c (by omega) (by omega), ← h a d (by omega) h4, ← h b c h3 (by omega)] at h5
    exact ⟨h1, h2, h3, h4, h5⟩
theorem swF_congr {R C : Nat} {f g : Nat → Nat → Int} (h : ∀ y x, y < R → x < C → f y x = g y x) (s : Sw) : swF R C f s = swF R C g s := by
  unfold swF; rw [four_congr h]
/-- The cells after a switch. -/
def flipN (f : Nat → Nat → Int) (a b c d : Nat) (y x : Nat) : Int := if (y = a ∨ y = b) ∧ (x = c ∨ x = d) then 1 - f y x else f y x
def flipF (f : Nat → Nat → Int) (s : Sw) : Nat → Nat → Int := flipN f s.y1.toNat s.y2.toNat s.x1.toNat s.x2.toNat
theorem flipN_img {R C : Nat} {f : Nat → Nat → Int} (h : Img R C f) (a b c d : Nat) : Img R C (flipN f a b c d) :=
  ⟨h.r1, h.r2, h.c1, h.c2, fun y x hy hx => by unfold flipN; split <;> rcases h.cell y x hy hx with e | e <;> simp [e]⟩
theorem flipF_img {R C : Nat} {f : Nat → Nat → Int} (h : Img R C f) (s : Sw) : Img R C (flipF f s) := flipN_img h _ _ _ _
theorem flipN_flip (f : Nat → Nat → Int) (a b c d : Nat) : flipN (flipN f a b c d) a b c d = f := by
  funext y x
  unfold flipN
  by_cases h : (y = a ∨ y = b) ∧ (x = c ∨ x = d)
  · rw [if_pos h, if_pos h]; omega
  · rw [if_neg h, if_neg h]
theorem flipF_flip (f : Nat → Nat → Int) (s : Sw) : flipF (flipF f s) s = f := flipN_flip f _ _ _ _
theorem flipN_congr {R C : Nat} {f g : Nat → Nat → Int} (h : ∀ y x, y < R → x < C → f y x = g y x) (a b c d : Nat) : ∀ y x, y < R → x < C → flipN f a b c d y x = flipN g a b c d y x := by
  intro y x hy hx; unfold flipN; rw [h y x hy hx]
theorem four_flip {R C : Nat} {f : Nat → Nat → Int} {a b c d : Nat} (h : four R C f a b c d = true) : four R C (flipN f a b c d) a b c d = true := by
  have := four_iff.1 h
  refine four_iff.2 ⟨this.1, this.2.1, this.2.2.1, this.2.2.2.1, ?_⟩
  unfold flipN
  simp
  omega
theorem swF_flip {R C : Nat} {f : Nat → Nat → Int} {s : Sw} (h : swF R C f s = true) : swF R C (flipF f s) s = true := by
  obtain ⟨a, b, c, d, rfl, h'⟩ := swF_iff.1 h
  exact swF_iff.2 ⟨a, b, c, d, rfl, by simpa [flipF] using four_flip h'⟩

/-- The same of lists. -/
def swB (m : List (List Int)) (s : Sw) : Bool := swF m.length (widthM m) (cellM m) s
def flipM (m : List (List Int)) (s : Sw) : List (List Int) := mkM m.length (widthM m) (flipF (cellM m) s)
theorem swB_mk {R C : Nat} {f : Nat → Nat → Int} (h : Img R C f) (s : Sw) : swB (mkM R C f) s = swF R C f s := by
  have := h.r1
  unfold swB
  rw [mkM_len, width_mkM (by omega)]
  exact swF_congr (fun y x hy hx => cell_mk R C f hy hx) s
theorem flipM_mk {R C : Nat} {f : Nat → Nat → Int} (h : Img R C f) (s : Sw) : flipM (mkM R C f) s = mkM R C (flipF f s) := by
  have := h.r1
  unfold flipM
  rw [mkM_len, width_mkM (by omega)]
  exact mkM_congr (flipN_congr (fun y x hy hx => cell_mk R C f hy hx) _ _ _ _)

/-- A node: a list that is a valid image of this size. -/
def Node (R C : Nat) (m : List (List Int)) : Prop := ∃ f, m = mkM R C f ∧ Img R C f
theorem node_flip {R C : Nat} {m : List (List Int)} (h : Node R C m) (s : Sw) : Node R C (flipM m s) := by
  obtain ⟨f, rfl, h⟩ := h
  exact ⟨_, flipM_mk h s, flipF_img h s⟩
theorem flip_back {R C : Nat} {m : List (List Int)} (h : Node R C m) (s : Sw) : flipM (flipM m s) s = m := by
  obtain ⟨f, rfl, h⟩ := h
  rw [flipM_mk h, flipM_mk (flipF_img h s), flipF_flip]
theorem swB_back {R C : Nat} {m : List (List Int)} (h : Node R C m) {s : Sw} (hs : swB m s = true) : swB (flipM m s) s = true := by
  obtain ⟨f, rfl, h⟩ := h
  rw [swB_mk h] at hs
  rw [flipM_mk h, swB_mk (flipF_img h s)]
  exact swF_flip hs

/-- Switches one after the other. -/
def goM : List (List Int) → List Sw → Option (List (List Int))
  | m, [] => some m
  | m, s :: p => if swB m s then goM (flipM m s) p else none
theorem goM_append (m : List (List Int)) (p q : List Sw) : goM m (p ++ q) = (goM m p).bind fun t => goM t q := by
  induction p generalizing m with
  | nil => rfl
  | cons s p ih =>
    simp only [List.cons_append, goM]
    split
    · exact ih _
    · rfl
theorem goM_snoc {m t : List (List Int)} {p : List Sw} {s : Sw} (h : goM m p = some t) (hs : swB t s = true) : goM m (p ++ [s]) = some (flipM t s) := by
  rw [goM_append, h]
  simp [goM, hs]
theorem goM_unsnoc {m u : List (List Int)} {p : List Sw} {s : Sw} (h : goM m (p ++ [s]) = some u) : ∃ t, goM m p = some t ∧ swB t s = true ∧ u = flipM t s := by
  rw [goM_append] at h
  cases ht : goM m p with
  | none => rw [ht] at h; cases h
  | some t =>
    rw [ht] at h
    simp only [Option.bind_some, goM] at h
    split at h
    · rename_i hs; exact ⟨t, rfl, hs, (Option.some.inj h).symm⟩
    · cases h
theorem goM_node {R C : Nat} {m t : List (List Int)} {p : List Sw} (hm : Node R C m) (h : goM m p = some t) : Node R C t := by
  induction p generalizing m with
  | nil => cases h; exact hm
  | cons s p ih =>
    simp only [goM] at h
    split at h
    · exact ih (node_flip hm s) h
    · cases h
theorem goM_rev {R C : Nat} {m t : List (List Int)} {p : List Sw} (hm : Node R C m) (h : goM m p = some t) : goM t p.reverse = some m := by
  induction p generalizing m with
  | nil => cases h; rfl
  | cons s p ih =>
    simp only [goM] at h
    split at h
    · rename_i hs
      rw [List.reverse_cons]
      have := goM_snoc (ih (node_flip hm s) h) (swB_back hm hs)
      rw [flip_back hm s] at this
      exact this
    · cases h

/-- A switch by its number, and its number. -/
def decS (i : Nat) : Sw := ⟨((i / 125 : Nat) : Int), ((i / 25 % 5 : Nat) : Int), ((i / 5 % 5 : Nat) : Int), ((i % 5 : Nat) : Int)⟩
def codeS (s : Sw) : Int := ((s.y1 * 5 + s.y2) * 5 + s.x1) * 5 + s.x2
theorem code_dec (i : Nat) : codeS (decS i) = i := by unfold codeS decS; simp only; omega
/-- The switches up to a number, in order. -/
def upS (m : List (List Int)) (k : Nat) : List Sw := ((List.range k).filter fun i => swB m (decS i)).map decS
theorem upS_zero (m : List (List Int)) : upS m 0 = [] := rfl
theorem upS_yes {m : List (List Int)} {k : Nat} (h : swB m (decS k) = true) : upS m (k + 1) = upS m k ++ [decS k] := by
  unfold upS; rw [List.range_succ, List.filter_append, List.map_append]; simp [h]
theorem upS_no {m : List (List Int)} {k : Nat} (h : swB m (decS k) = false) : upS m (k + 1) = upS m k := by
  unfold upS; rw [List.range_succ, List.filter_append, List.map_append]; simp [h]
theorem upS_skip {m : List (List Int)} {k l : Nat} (hkl : k ≤ l) (h : ∀ i, k ≤ i → i < l → swB m (decS i) = false) : upS m l = upS m k := by
  induction l with
  | zero => obtain rfl : k = 0 := by omega
            rfl
  | succ l ih =>
    by_cases e : k = l + 1
    · rw [e]
    · rw [upS_no (h l (by omega) (by omega)), ih (by omega) fun i h1 h2 => h i h1 (by omega)]
def swsM (m : List (List Int)) : List Sw := upS m 625
theorem upS_len (m : List (List Int)) (k : Nat) : (upS m k).length ≤ k := by
  unfold upS; rw [List.length_map]
  exact Nat.le_trans (List.length_filter_le _ _) (by rw [List.length_range]; exact Nat.le_refl _)
theorem upS_mem {m : List (List Int)} {k : Nat} {s : Sw} (h : s ∈ upS m k) : swB m s = true ∧ ∃ i, i < k ∧ s = decS i := by
  unfold upS at h
  simp only [List.mem_map, List.mem_filter, List.mem_range] at h
  obtain ⟨i, ⟨h1, h2⟩, rfl⟩ := h
  exact ⟨h2, i, h1, rfl⟩
theorem sws_mem {R C : Nat} {m : List (List Int)} (hm : Node R C m) {s : Sw} : s ∈ swsM m ↔ swB m s = true := by
  refine ⟨fun h => (upS_mem h).1, fun h => ?_⟩
  obtain ⟨f, rfl, hI⟩ := hm
  have h0 := h
  rw [swB_mk hI] at h
  obtain ⟨a, b, c, d, rfl, hf⟩ := swF_iff.1 h
  have hf := four_iff.1 hf
  have := hI.r2; have := hI.c2
  unfold swsM upS
  simp only [List.mem_map, List.mem_filter, List.mem_range]
  have e : decS (((a * 5 + b) * 5 + c) * 5 + d) = ⟨a, b, c, d⟩ := by
    unfold decS
    rw [show (((a * 5 + b) * 5 + c) * 5 + d) / 125 = a by omega, show (((a * 5 + b) * 5 + c) * 5 + d) / 25 % 5 = b by omega, show (((a * 5 + b) * 5 + c) * 5 + d) / 5 % 5 = c by omega, show (((a * 5 + b) * 5 + c) * 5 + d) % 5 = d by omega]
  exact ⟨((a * 5 + b) * 5 + c) * 5 + d, ⟨by omega, by rw [e]; exact h0⟩, e⟩
/-- One switch comes before another. -/
def swlt (a b : Sw) : Prop := codeS a < codeS b
theorem upS_sorted (m : List (List Int)) (k : Nat) : (upS m k).Pairwise swlt := by
  unfold upS
  rw [List.pairwise_map]
  refine List.Pairwise.imp ?_ (List.Pairwise.filter _ (List.pairwise_lt_range (n := k)))
  intro a b h
  unfold swlt; rw [code_dec, code_dec]; omega
end Go.Proofs.Ytinhdcchfeokpaa
/-
  The exact law on SumsOk, walked.
-/
namespace Go.Proofs.Ytinhdcchfeokpaa
open Go.RowKit
set_option linter.unusedVariables false

/-- What 'open_ints' hands over. -/
theorem inRow_of {w : World} {x : Addr} {l c : Nat} {zs : List Int} (hl : l ≤ c) (hm : c ≤ maxLen) (hz : zs.length = c) (hcell : ∀ i, i < zs.length → w.cell? (x.add i) = some (.int .i64 (zs.getD i 0))) : InRow w (.slice (some x) l c) (zs.take l) := by
  have hlen : (zs.take l).length = l := by rw [List.length_take]; omega
  refine ⟨some x, c, by rw [hlen], by omega, ?_⟩
  by_cases h0 : l = 0
  · exact .inl (by omega)
  · refine .inr ?_
    obtain ⟨g, o, spot⟩ := x
    have hc := hcell 0 (by omega)
    have hspot : spot = none := by simpa [Addr.add] using World.cell?_spot hc
    subst hspot
    refine ⟨g, o, rfl, by have := World.block_lt_of_cell? w _ hc; simpa [Addr.add] using this, fun i hi => ?_⟩
    have := hcell i (by omega)
    rw [addr_add] at this
    rw [this, List.getElem_take, List.getD_eq_getElem?_getD, List.getElem?_eq_getElem (by omega)]; rfl

end Go.Proofs.Ytinhdcchfeokpaa
/-
  ConjugateOf, of the model and of the program.
-/
namespace Go.Proofs.Ytinhdcchfeokpaa
open Go.RowKit

/-- The list g 0, .., g (n - 1). -/
def tabL (n : Nat) (g : Nat → Int) : List Int := (List.range n).map g
theorem tabL_len (n : Nat) (g : Nat → Int) : (tabL n g).length = n := by simp [tabL]
theorem tabL_at {n : Nat} {g : Nat → Int} {i : Nat} (h : i < (tabL n g).length) : (tabL n g)[i] = g i := by simp [tabL]
theorem tabL_congr {n : Nat} {g h : Nat → Int} (e : ∀ i, i < n → g i = h i) : tabL n g = tabL n h := by
  unfold tabL; exact List.map_congr_left fun i hi => e i (List.mem_range.1 hi)
theorem tabL_set (n : Nat) (g : Nat → Int) (k : Nat) (y : Int) : (tabL n g).set k y = tabL n fun t => if t = k then y else g t := by
  apply List.ext_getElem
  · simp [tabL]
  · intro i h1 h2
    rw [List.getElem_set, tabL_at h2]
    by_cases e : k = i
    · rw [if_pos e, if_pos e.symm]
    · rw [if_neg e, tabL_at, if_neg (fun h => e h.symm)]
theorem tabL_zero (n : Nat) : List.replicate n (Value.int .i64 0) = ints (tabL n fun _ => 0) := by
  apply List.ext_getElem
  · simp [ints, tabL]
  · intro i h1 h2; simp [ints, tabL]
theorem tabL_held {n : Nat} {g : Nat → Int} {i : Nat} (h : i < n) : (ints (tabL n g)).getD i undef = .int .i64 (g i) := by
  rw [List.getD_eq_getElem?_getD, ints_at _ _ (by rw [tabL_len]; exact h), tabL_at]; rfl

/-- How many of l are at least t. -/
def atLeast (t : Int) (l : List Int) : Nat := l.countP fun x => decide (t ≤ x)
theorem atLeast_le (t : Int) (l : List Int) : atLeast t l ≤ l.length := List.countP_le_length
theorem atLeast_take (t : Int) (l : List Int) (k : Nat) (h : k < l.length) : atLeast t (l.take (k + 1)) = atLeast t (l.take k) + if t ≤ l[k] then 1 else 0 := by
  rw [atLeast, List.take_succ_eq_append_getElem h, List.countP_append]
  simp [atLeast]
/-- What ConjugateOf returns. -/
def conjL (l : List Int) (n : Nat) : List Int := tabL n fun k => ((atLeast (k + 1) l : Nat) : Int)
def conjOk (l : List Int) (n : Int) : Bool := decide (1 ≤ n ∧ n ≤ 5) && (decide (l.length ≤ 5) && !l.any (badB n))
def conjRes (l : List Int) (n : Int) : List Int := if conjOk l n = true then conjL l n.toNat else []
theorem conj_no1 {l : List Int} {n : Int} (h : ¬ (1 ≤ n ∧ n ≤ 5)) : conjRes l n = [] := by rw [conjRes, conjOk, decide_eq_false h]; rfl
theorem conj_no2 {l : List Int} {n : Int} (h : 5 < l.length) : conjRes l n = [] := by rw [conjRes, conjOk, decide_eq_false (show ¬ l.length ≤ 5 by omega)]; simp
theorem conj_no3 {l : List Int} {n : Int} (h : l.any (badB n) = true) : conjRes l n = [] := by rw [conjRes, conjOk, h]; simp
theorem conj_yes {l : List Int} {n : Nat} (h1 : 1 ≤ n ∧ n ≤ 5) (h2 : l.length ≤ 5) (h : l.any (badB n) = false) : conjRes l n = conjL l n := by
  rw [conjRes, conjOk, h, decide_eq_true h2, decide_eq_true (show (1 : Int) ≤ n ∧ (n : Int) ≤ 5 by omega)]; simp

/-- .. and nil where there are none. -/
def IntsNil (r : List Int) (w : World) (e : Ending) (w' : World) : Prop := IntsRes r w e w' ∧ (r = [] → e = .returned (.slice none 0 0))
end Go.Proofs.Ytinhdcchfeokpaa
/-
  Lists of integers in descending order, and SortedDown of the model.
-/
namespace Go.Proofs.Ytinhdcchfeokpaa
open Go.RowKit

def Desc (l : List Int) : Prop := l.Pairwise fun x y => y ≤ x
theorem desc_unique : ∀ {a b : List Int}, a.Perm b → Desc a → Desc b → a = b := by
  intro a
  induction a with
  | nil => intro b hp _ _; exact hp.nil_eq
  | cons x a ih =>
    intro b hp ha hb
    cases b with
    | nil => exact absurd hp.symm.nil_eq (by simp)
    | cons y b =>
      have hxy : x = y := by
        have h1 : x ∈ y :: b := hp.subset (List.mem_cons_self ..)
        have h2 : y ∈ x :: a := hp.symm.subset (List.mem_cons_self ..)
        rw [List.mem_cons] at h1 h2
        rcases h1 with h1 | h1
        · exact h1
        · rcases h2 with h2 | h2
          · exact h2.symm
          · have h3 := (List.pairwise_cons.1 hb).1 x h1
            have h4 := (List.pairwise_cons.1 ha).1 y h2
            omega
      subst hxy
      rw [ih hp.cons_inv (List.pairwise_cons.1 ha).2 (List.pairwise_cons.1 hb).2]
/-- What SortedDown returns. -/
def sortD (l : List Int) : List Int := l.mergeSort fun x y => decide (y ≤ x)
theorem sortD_perm (l : List Int) : (sortD l).Perm l := List.mergeSort_perm l _
theorem sortD_desc (l : List Int) : Desc (sortD l) := by
  have h := List.pairwise_mergeSort (le := fun x y : Int => decide (y ≤ x)) (by simp; omega) (by simp; omega) l
  exact h.imp fun h => by simpa using h
theorem sortD_of {l s : List Int} (hp : s.Perm l) (hs : Desc s) : s = sortD l := desc_unique (hp.trans (sortD_perm l).symm) hs (sortD_desc l)
theorem sortD_len (l : List Int) : (sortD l).length = l.length := (sortD_perm l).length_eq

/-- x among s, at q. -/
def bub (s : List Int) (x : Int) (q : Nat) : List Int := s.take q ++ x :: s.drop q
theorem bub_len {s : List Int} {x : Int} {q : Nat} (h : q ≤ s.length) : (bub s x q).length = s.length + 1 := by simp [bub]; omega
theorem bub_end (s : List Int) (x : Int) : bub s x s.length = s ++ [x] := by simp [bub]
theorem bub_self {s : List Int} {x : Int} {q : Nat} (h : q ≤ s.length) : (ints (bub s x q)).getD q undef = .int .i64 x := by
  rw [List.getD_eq_getElem?_getD, ints_at _ _ (by rw [bub_len h]; omega)]
  simp only [bub, Option.getD_some, Value.int.injEq, true_and]
  rw [List.getElem_append_right (by simp; omega)]
  simp [Nat.min_eq_left h]
theorem bub_eq {s : List Int} {x : Int} {p : Nat} (h : p < s.length) : bub s x (p + 1) = s.take p ++ s[p] :: x :: s.drop (p + 1) := by
  rw [bub, List.take_succ_eq_append_getElem h, List.append_assoc]; rfl
theorem bub_prev {s : List Int} {x : Int} {p : Nat} (h : p < s.length) : (ints (bub s x (p + 1))).getD p undef = .int .i64 s[p] := by
  rw [List.getD_eq_getElem?_getD, ints_at _ _ (by rw [bub_len (by omega)]; omega)]
  simp only [bub_eq h, Option.getD_some, Value.int.injEq, true_and]
  rw [List.getElem_append_right (by simp; omega)]
  simp [Nat.min_eq_left (Nat.le_of_lt h)]
theorem bub_step {s : List Int} {x : Int} {p : Nat} (h : p < s.length) : ((bub s x (p + 1)).set (p + 1) s[p]).set p x = bub s x p := by
  have hl : (s.take p).length = p := by rw [List.length_take]; omega
  rw [bub_eq h, List.set_append_right _ _ (by omega), hl, show p + 1 - p = 0 + 1 by omega, List.set_cons_succ, List.set_cons_zero, List.set_append_right _ _ (by omega), hl, Nat.sub_self, List.set_cons_zero, bub, List.drop_eq_getElem_cons h]
theorem bub_perm (s : List Int) (x : Int) (q : Nat) : (bub s x q).Perm (x :: s) := by
  have h : (bub s x q).Perm (x :: (s.take q ++ s.drop q)) := List.perm_middle
  rwa [List.take_append_drop] at h
theorem bub_desc {s : List Int} {x : Int} {q : Nat} (hq : q ≤ s.length) (hs : Desc s) (h1 : ∀ y ∈ s.drop q, y < x) (h2 : ∀ p, (h : p < s.length) → p + 1 = q → x ≤ s[p]) : Desc (bub s x q) := by
  have hs' := hs
  unfold Desc at hs
  rw [← List.take_append_drop q s, List.pairwise_append] at hs
  obtain ⟨a1, a2, a3⟩ := hs
  have hx : ∀ a ∈ s.take q, x ≤ a := fun a ha => by
    obtain ⟨i, hi, rfl⟩ := List.getElem_of_mem ha
    rw [List.length_take] at hi
    rw [List.getElem_take]
    have h3 := h2 (q - 1) (by omega) (by omega)
    by_cases e : i = q - 1
    · subst e; exact h3
    · have := List.pairwise_iff_getElem.1 hs' i (q - 1) (by omega) (by omega) (by omega)
      omega
  refine List.pairwise_append.2 ⟨a1, List.pairwise_cons.2 ⟨fun y hy => by have := h1 y hy; omega, a2⟩, fun a ha b hb => ?_⟩
  rcases List.mem_cons.1 hb with rfl | hb
  · exact hx a ha
  · exact a3 a ha b hb

end Go.Proofs.Ytinhdcchfeokpaa
/-
  The columns by their sums: the greatest first, of equal ones those further to the left.
-/
namespace Go.Proofs.Ytinhdcchfeokpaa
open Go.RowKit

/-- A column's place in the order, as a number: the greater the earlier. -/
def keyF (c : List Int) (i : Nat) : Int := c.getD i 0 * 8 + (7 - (i : Int))
theorem keyF_inj {c : List Int} {i j : Nat} (hi : i < 8) (hj : j < 8) (h : keyF c i = keyF c j) : i = j := by unfold keyF at h; omega
/-- The order of the columns. -/
def sortK (c : List Int) : List Nat := (List.range c.length).mergeSort fun i j => decide (keyF c j ≤ keyF c i)
theorem sortK_perm (c : List Int) : (sortK c).Perm (List.range c.length) := List.mergeSort_perm _ _
theorem sortK_len (c : List Int) : (sortK c).length = c.length := by rw [(sortK_perm c).length_eq, List.length_range]
theorem sortK_desc (c : List Int) : (sortK c).Pairwise fun i j => keyF c j ≤ keyF c i := by
  have h := List.pairwise_mergeSort (le := fun i j : Nat => decide (keyF c j ≤ keyF c i)) (by simp; omega) (by simp; omega) (List.range c.length)
  exact h.imp fun h => by simpa using h
theorem sortK_mem {c : List Int} {i : Nat} : i ∈ sortK c ↔ i < c.length := by rw [(sortK_perm c).mem_iff, List.mem_range]
theorem sortK_nodup (c : List Int) : (sortK c).Nodup := (sortK_perm c).nodup_iff.2 List.nodup_range
theorem map_inj_of {k : Nat → Int} {p : Nat → Prop} (hk : ∀ i j, p i → p j → k i = k j → i = j) : ∀ {s t : List Nat}, (∀ i ∈ s, p i) → (∀ i ∈ t, p i) → s.map k = t.map k → s = t
  | [], [], _, _, _ => rfl
  | [], y :: t, _, _, h => by simp at h
  | x :: s, [], _, _, h => by simp at h
  | x :: s, y :: t, hs, ht, h => by
    simp only [List.map_cons, List.cons.injEq] at h
    rw [hk x y (hs x List.mem_cons_self) (ht y List.mem_cons_self) h.1, map_inj_of hk (fun i hi => hs i (List.mem_cons_of_mem _ hi)) (fun i hi => ht i (List.mem_cons_of_mem _ hi)) h.2]
theorem sortK_of {c : List Int} {s : List Nat} (hc : c.length ≤ 8) (hp : s.Perm (List.range c.length)) (hd : s.Pairwise fun i j => keyF c j ≤ keyF c i) : s = sortK c := by
  refine map_inj_of (k := keyF c) (p := fun i => i < c.length) (fun i j hi hj h => keyF_inj (by omega) (by omega) h) (fun i hi => by rw [hp.mem_iff, List.mem_range] at hi; exact hi) (fun i hi => sortK_mem.1 hi) ?_
  exact desc_unique ((hp.trans (sortK_perm c).symm).map _) (List.pairwise_map.2 hd) (List.pairwise_map.2 (sortK_desc c))
/-- The row whose n black cells stand in the first columns of the order. -/
def topF (c : List Int) (n x : Nat) : Int := if x ∈ (sortK c).take n then 1 else 0
def topRow (c : List Int) (n : Nat) : List Int := tabL c.length (topF c n)
theorem topRow_len (c : List Int) (n : Nat) : (topRow c n).length = c.length := tabL_len _ _
theorem topF_zero (c : List Int) (x : Nat) : topF c 0 x = 0 := by rw [topF, if_neg (by simp)]
theorem topF_succ {c : List Int} {n : Nat} (h : n < (sortK c).length) (x : Nat) : topF c (n + 1) x = if x = (sortK c)[n] then 1 else topF c n x := by
  unfold topF
  rw [List.take_succ_eq_append_getElem h]
  by_cases e : x = (sortK c)[n]
  · rw [if_pos e, if_pos (by rw [List.mem_append]; right; simp [e])]
  · rw [if_neg e]
    by_cases e2 : x ∈ (sortK c).take n
    · rw [if_pos e2, if_pos (List.mem_append_left _ e2)]
    · rw [if_neg e2, if_neg (by rw [List.mem_append]; rintro (h | h); exact e2 h; exact e (by simpa using h))]
theorem topF_next {c : List Int} {n : Nat} (h : n < (sortK c).length) : topF c n (sortK c)[n] = 0 := by
  rw [topF, if_neg]
  intro hm
  obtain ⟨i, hi, he⟩ := List.getElem_of_mem hm
  rw [List.length_take] at hi
  rw [List.getElem_take] at he
  have := (List.nodup_iff_pairwise_ne.1 (sortK_nodup c))
  have := List.pairwise_iff_getElem.1 this i n (by omega) h (by omega)
  exact this he
/-- The next column is the first one of those that are white yet. -/
theorem next_of {c : List Int} {n b : Nat} (hc : c.length ≤ 8) (h : n < (sortK c).length) (hb : b < c.length) (hw : topF c n b = 0) (hall : ∀ t, t < c.length → topF c n t = 0 → keyF c t ≤ keyF c b) : b = (sortK c)[n] := by
  have hn : (sortK c)[n] < c.length := sortK_mem.1 (List.getElem_mem h)
  have h1 := hall _ hn (topF_next h)
  obtain ⟨i, hi, he⟩ := List.getElem_of_mem (sortK_mem.2 hb)
  have hni : n ≤ i := by
    rcases Nat.lt_or_ge i n with h2 | h2
    · exfalso
      rw [topF, if_pos] at hw
      · cases hw
      · rw [← he]
        refine List.mem_of_getElem (i := i) (h := by rw [List.length_take]; omega) ?_
        rw [List.getElem_take]
    · exact h2
  by_cases e : n = i
  · subst e; exact he.symm
  · have h2 := List.pairwise_iff_getElem.1 (sortK_desc c) n i h hi (by omega)
    rw [he] at h2
    exact keyF_inj (c := c) (by omega) (by omega) (by omega)

open Go.Sort in
theorem insInner_congr {α : Type} [Inhabited α] (lt lt' : α → α → Bool) (a : Nat) : ∀ (j : Nat) (d : Array α), j < d.size → (∀ k, k < j → lt d[j]! d[k]! = lt' d[j]! d[k]!) → insInner lt a j d = insInner lt' a j d
  | 0, _, _, _ => rfl
  | j + 1, d, hj, h => by
    unfold insInner
    rw [h j (Nat.lt_succ_self _)]
    have ih := insInner_congr lt lt' a j (swp d (j + 1) j) (by rw [swp_size]; omega) (fun k hk => by
      rw [swp_get d hj (by omega), swp_get d hj (by omega), if_pos rfl, if_neg (by omega), if_neg (by omega)]
      exact h k (by omega))
    rw [ih]
open Go.Sort in
theorem insInner_keeps {α : Type} [Inhabited α] (lt : α → α → Bool) (a : Nat) (p : α → Prop) (i : Nat) : ∀ (j : Nat) (d : Array α), j ≤ i → i < d.size → (∀ k, k ≤ i → p d[k]!) →
    (insInner lt a j d).size = d.size ∧ (∀ k, k ≤ i → p (insInner lt a j d)[k]!) ∧ ∀ k, i < k → (insInner lt a j d)[k]! = d[k]!
  | 0, d, _, _, h => ⟨rfl, h, fun _ _ => rfl⟩
  | j + 1, d, hj, hi, h => by
    unfold insInner
    split
    · obtain ⟨h1, h2, h3⟩ := insInner_keeps lt a p i j (swp d (j + 1) j) (by omega) (by rw [swp_size]; exact hi) (fun k hk => by
        rw [swp_get d (by omega) (by omega)]
        split
        · exact h _ (by omega)
        · split
          · exact h _ (by omega)
          · exact h _ hk)
      refine ⟨by rw [h1, swp_size], h2, fun k hk => ?_⟩
      rw [h3 k hk, swp_get d (by omega) (by omega), if_neg (by omega), if_neg (by omega)]
    · exact ⟨rfl, h, fun _ _ => rfl⟩
/-- Two orders that agree wherever the left one came in later sort alike. -/
theorem insOuter_congr {C : Nat} [Inhabited (Fin C)] (lt lt' : Fin C → Fin C → Bool) (h : ∀ x y : Fin C, y.val < x.val → lt x y = lt' x y) : ∀ (m i : Nat) (d : Array (Fin C)), C - i = m → i ≤ C → d.size = C → (∀ k, k < i → (d[k]!).val < i) → (∀ k, i ≤ k → k < C → (d[k]!).val = k) →
    Go.Sort.insOuter lt 0 C i d = Go.Sort.insOuter lt' 0 C i d
  | 0, i, d, hm, hi, hs, _, _ => by
    rw [Go.Sort.insOuter, if_neg (by omega), Go.Sort.insOuter, if_neg (by omega)]
  | m + 1, i, d, hm, hi, hs, hlo, hhi => by
    have hlt : i < C := by omega
    rw [Go.Sort.insOuter, if_pos hlt]
    conv => rhs; rw [Go.Sort.insOuter, if_pos hlt]
    have e : Go.Sort.insInner lt 0 i d = Go.Sort.insInner lt' 0 i d := insInner_congr lt lt' 0 i d (by omega) fun k hk => h _ _ (by rw [hhi i (Nat.le_refl _) hlt]; exact hlo k hk)
    rw [e]
    obtain ⟨h1, h2, h3⟩ := insInner_keeps lt' 0 (fun x => x.val < i + 1) i i d (Nat.le_refl _) (by omega) (fun k hk => by
      by_cases e : k = i
      · subst e; rw [hhi k (Nat.le_refl _) hlt]; omega
      · have := hlo k (by omega); omega)
    exact insOuter_congr lt lt' h m (i + 1) _ (by omega) (by omega) (by rw [h1]; exact hs) (fun k hk => h2 k (by omega)) (fun k hk1 hk2 => by rw [h3 k (by omega)]; exact hhi k (by omega) hk2)

theorem extract_all {α : Type} (r : Array α) (n : Nat) (h : r.size = n) : r.extract 0 n = r := by subst h; simp
def finsL (C : Nat) : Array (Fin C) := Array.ofFn fun i => i
/-- What the library's stable sort of the columns leaves. -/
theorem insertion_top {c : List Int} [Inhabited (Fin c.length)] (hc : c.length ≤ 8) (lt : Fin c.length → Fin c.length → Bool) (hlt : ∀ x y, lt x y = decide (c.getD y.val 0 < c.getD x.val 0)) :
    (Go.Sort.insertionSort lt (finsL c.length) 0 c.length).toList.map (·.val) = sortK c := by
  have hsz : (finsL c.length).size = c.length := by simp [finsL]
  have hget : ∀ k, k < c.length → ((finsL c.length)[k]!).val = k := fun k hk => by
    rw [getElem!_pos (finsL c.length) k (by rw [hsz]; exact hk)]; simp [finsL]
  let lt' : Fin c.length → Fin c.length → Bool := fun x y => decide (keyF c y.val < keyF c x.val)
  have hcong : Go.Sort.insertionSort lt (finsL c.length) 0 c.length = Go.Sort.insertionSort lt' (finsL c.length) 0 c.length := by
    unfold Go.Sort.insertionSort
    by_cases h0 : c.length = 0
    · rw [Go.Sort.insOuter, if_neg (by omega), Go.Sort.insOuter, if_neg (by omega)]
    · refine insOuter_congr lt lt' (fun x y hxy => ?_) _ 1 _ rfl (by omega) hsz (fun k hk => by rw [hget k (by omega)]; exact hk) (fun k _ hk => hget k hk)
      have hx := x.isLt; have hy := y.isLt
      rw [hlt x y]
      show decide _ = decide (keyF c y.val < keyF c x.val)
      unfold keyF
      by_cases h : c.getD y.val 0 < c.getD x.val 0
      · rw [decide_eq_true h, decide_eq_true (by omega)]
      · rw [decide_eq_false h, decide_eq_false (by omega)]
  rw [hcong]
  have hswo : Go.Sort.SWO lt' := ⟨fun x => by simp [lt'], fun x y z h1 h2 => by simp [lt'] at *; omega, fun x y z h1 h2 => by simp [lt'] at *; omega⟩
  obtain ⟨⟨p1, -, p3⟩, s⟩ := Go.Sort.insertionSort_holds hswo (finsL c.length) 0 c.length (Nat.zero_le _) (by rw [hsz]; exact Nat.le_refl _)
  generalize Go.Sort.insertionSort lt' (finsL c.length) 0 c.length = r at p1 p3 s
  have hr : r.size = c.length := by rw [p1, hsz]
  rw [extract_all r _ hr, extract_all (finsL c.length) _ hsz] at p3
  refine sortK_of hc ?_ ?_
  · have := p3.map (·.val)
    refine this.trans (List.Perm.of_eq ?_)
    apply List.ext_getElem
    · simp [finsL]
    · intro i h1 h2; simp [finsL]
  · refine List.pairwise_map.2 (List.pairwise_iff_getElem.2 fun i j hi hj hij => ?_)
    have hi' : i < r.size := by simpa using hi
    have hj' : j < r.size := by simpa using hj
    have := s i j (Nat.zero_le _) hij (by omega)
    rw [getElem!_pos r i hi', getElem!_pos r j hj'] at this
    simp only [lt', decide_eq_false_iff_not] at this
    simp only [Array.getElem_toList]
    omega
end Go.Proofs.Ytinhdcchfeokpaa
/-
  A slice of integers appended to a slice that the call owns.
-/
namespace Go.Proofs.Ytinhdcchfeokpaa
open Go.RowKit

/-- 'append(v, r...)' at a slice of the call's own, r a slice of integers. -/
theorem wpList_appendRow {P : Program} {ops : Array Oper} {rest : List Oper} {o : Oper} {a : Act} {Q : Exit → Act → World → Prop} {W : World} {base n bytes : Nat} {E T : TypeId} {v : Value} {xs : List Value} (d : Tmp) (_hd : o.dst = some d)
    (hown : W.ownsRow base E 1 v n xs) (r : List Int) (g b c : Nat) (z : Value) (hgd : o.guard = none) (s x : Operand)
    (ho : o.op = .call { callee := .builtin .append, args := #[s, x], argTypes := #[T, T] })
    (ht : P.underlying T = some (.slice E)) (hinfo : (P.info? E).map (fun i => (i.zero, i.size, i.bytes)) = some (some z, 1, bytes)) (hz : z.cells.size = 1) (hby : bytes ≤ 32)
    (hs : a.eval s = v) (hx : a.eval x = .slice (some ⟨g, b, none⟩) r.length c) (hr : ∀ j, (h : j < r.length) → W.cell? ⟨g, b + j, none⟩ = some (.int .i64 r[j])) (hn : n + r.length < 4000000) (hbase : base ≤ W.heap.size)
    (h : ∀ v' w', w'.ownsRow base E 1 v' (n + r.length) (xs ++ ints r) → Below base W w' → W.grownBy w' v.ownBlock → wpList P ops Q rest (a.put o.dst v') w') :
    wpList P ops Q (o :: rest) a W := by
  obtain ⟨i0, hi, hz0, hz1, hz2⟩ := info_parts hinfo
  refine wpList_append_own _ hgd s x T ho base E i0 z 1 bytes ht hi hz0 hz1 hz2 hz (by decide) v n xs hs hown ⟨g, b, none⟩ r.length c (ints r) hx (by simp [ints]) (fun j u hu => ?_) (fun u hu => ?_)
    (by unfold maxLen; omega) (by have : (n + r.length) * bytes ≤ 4000000 * 32 := Nat.mul_le_mul (by omega) hby; omega) hbase ?_
  · have hj : j < r.length := by have := (List.getElem?_eq_some_iff.1 hu).1; simpa [ints] using this
    rw [ints_at r j hj, Option.some.injEq] at hu
    subst hu
    rw [addr_add]; exact hr j hj
  · simp only [ints, List.mem_map] at hu
    obtain ⟨q, -, rfl⟩ := hu; rfl
  · intro v' w' hown' hg _
    exact h v' w' hown' ((Below.refl _ _).grown hg hbase (fun k hk => (hown.lt k hk).1)) hg
end Go.Proofs.Ytinhdcchfeokpaa
/-
  l05Fill of the model.
-/
namespace Go.Proofs.Ytinhdcchfeokpaa
open Go.RowKit

theorem tabL_self (c : List Int) : tabL c.length (fun x => c.getD x 0) = c := by
  apply List.ext_getElem
  · rw [tabL_len]
  · intro i h1 h2
    rw [tabL_at, List.getD_eq_getElem?_getD, List.getElem?_eq_getElem h2]; rfl
/-- What a row leaves of the column sums. -/
def subL (c row : List Int) : List Int := tabL c.length fun x => c.getD x 0 - row.getD x 0
theorem subL_len (c row : List Int) : (subL c row).length = c.length := tabL_len _ _
theorem tabL_getD {n : Nat} {g : Nat → Int} {x : Nat} (h : x < n) : (tabL n g).getD x 0 = g x := by
  rw [List.getD_eq_getElem?_getD, List.getElem?_eq_getElem (by rw [tabL_len]; exact h), tabL_at]; rfl
theorem subL_top (c : List Int) (n : Nat) : subL c (topRow c n) = tabL c.length fun x => c.getD x 0 - topF c n x :=
  tabL_congr fun i hi => by rw [topRow, tabL_getD hi]
theorem top01 (c : List Int) (n x : Nat) : topF c n x = 0 ∨ topF c n x = 1 := by
  unfold topF
  split
  · exact .inr rfl
  · exact .inl rfl
/-- Numbers that are small enough to be reckoned with. -/
def Mid100 (m : Int) (c : List Int) : Prop := c.length ≤ 5 ∧ ∀ x, x < c.length → -m ≤ c.getD x 0 ∧ c.getD x 0 ≤ 100
/-- The image whose rows are chosen one after the other. -/
def imgL (ch : List Int → List Int → List Int) : List Int → List Int → List (List Int)
  | [], _ => []
  | a :: r, c => ch (a :: r) c :: imgL ch r (subL c (ch (a :: r) c))
def greedyCh (r c : List Int) : List Int := topRow c (r.headD 0).toNat
theorem imgL_len (ch : List Int → List Int → List Int) : ∀ (r c : List Int), (imgL ch r c).length = r.length
  | [], _ => rfl
  | a :: r, c => by rw [imgL, List.length_cons, imgL_len ch r, List.length_cons]
/-- What l05Fill returns. -/
def FillRes (c : List Int) (n : Nat) (w : World) (e : Ending) (w' : World) : Prop :=
  ∃ u v, e = .returned (.tuple #[u, v]) ∧ w'.ownsRow w.heap.size 3 1 u c.length (ints (topRow c n)) ∧ w'.ownsRow w.heap.size 3 1 v c.length (ints (subL c (topRow c n))) ∧ Below w.heap.size w w'
/-- The best of the first x columns that are white yet. -/
def BestOf (c : List Int) (n x : Nat) (b : Int) : Prop :=
  (b = -1 ∧ ∀ t, t < x → topF c n t = 1) ∨ ∃ k : Nat, b = k ∧ k < x ∧ topF c n k = 0 ∧ ∀ t, t < x → topF c n t = 0 → keyF c t ≤ keyF c k
theorem best_skip {c : List Int} {n x : Nat} {b : Int} (h : BestOf c n x b) (hx : topF c n x = 1) : BestOf c n (x + 1) b := by
  rcases h with ⟨h1, h2⟩ | ⟨k, h1, h2, h3, h4⟩
  · refine .inl ⟨h1, fun t ht => ?_⟩
    by_cases e : t = x
    · rw [e]; exact hx
    · exact h2 t (by omega)
  · refine .inr ⟨k, h1, by omega, h3, fun t ht h0 => ?_⟩
    by_cases e : t = x
    · rw [e, hx] at h0; cases h0
    · exact h4 t (by omega) h0
theorem best_first {c : List Int} {n x : Nat} (h : BestOf c n x (-1)) (hx : topF c n x = 0) : BestOf c n (x + 1) x := by
  rcases h with ⟨-, h2⟩ | ⟨k, h1, -⟩
  · refine .inr ⟨x, rfl, Nat.lt_succ_self _, hx, fun t ht h0 => ?_⟩
    by_cases e : t = x
    · rw [e]; exact Int.le_refl _
    · rw [h2 t (by omega)] at h0; cases h0
  · omega
theorem best_take {c : List Int} {n x k : Nat} (h : BestOf c n x k) (hx8 : x < 8) (hx : topF c n x = 0) (hgt : c.getD k 0 < c.getD x 0) : BestOf c n (x + 1) x := by
  rcases h with ⟨h1, -⟩ | ⟨k', h1, h2, h3, h4⟩
  · omega
  · obtain rfl : k = k' := by omega
    refine .inr ⟨x, rfl, Nat.lt_succ_self _, hx, fun t ht h0 => ?_⟩
    by_cases e : t = x
    · rw [e]; exact Int.le_refl _
    · have := h4 t (by omega) h0
      unfold keyF at this ⊢
      omega
theorem best_keep {c : List Int} {n x k : Nat} (h : BestOf c n x k) (hgt : ¬ c.getD k 0 < c.getD x 0) : BestOf c n (x + 1) k := by
  rcases h with ⟨h1, -⟩ | ⟨k', h1, h2, h3, h4⟩
  · omega
  · obtain rfl : k = k' := by omega
    refine .inr ⟨k, rfl, by omega, h3, fun t ht h0 => ?_⟩
    by_cases e : t = x
    · subst e; unfold keyF; omega
    · exact h4 t (by omega) h0
theorem best_end {c : List Int} {n : Nat} {b : Int} (hc : c.length ≤ 8) (hn : n < (sortK c).length) (h : BestOf c n c.length b) : b = ((sortK c)[n] : Nat) := by
  rcases h with ⟨-, h2⟩ | ⟨k, h1, h2, h3, h4⟩
  · have := h2 _ (sortK_mem.1 (List.getElem_mem hn))
    rw [topF_next hn] at this; cases this
  · rw [h1, next_of hc hn h2 h3 fun t ht h0 => h4 t ht h0]
theorem next_ex {c : List Int} {n : Nat} (hc : c.length ≤ 8) (hn : n < (sortK c).length) :
    ∃ b, b < c.length ∧ (∀ t, topF c (n + 1) t = if t = b then 1 else topF c n t) ∧ topF c n b = 0 ∧ ∀ q, BestOf c n c.length q → q = (b : Nat) :=
  ⟨(sortK c)[n], sortK_mem.1 (List.getElem_mem hn), fun t => topF_succ hn t, topF_next hn, fun _ h => best_end hc hn h⟩

end Go.Proofs.Ytinhdcchfeokpaa
