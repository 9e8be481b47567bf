/-
  Texts of this claim, one behind the other: Swap, Val, Conn, Agg, DrL, DrH, DrE, OwnD, DrO.
-/
import Derived.Test.YtjnnoabaepmcnaaPackC
import Derived.Test.YtjnnoabaepmcnaaPackD
import Derived.Test.YtjnnoabaepmcnaaPackA
import Derived.Great.BuildSlice
import Derived.Deep.AppendLies
import Derived.Test.YtjnnoabaepmcnaaPackB
/-
  Switches, pure: the four cells, an image after a switch, lists of switches in order, paths.
-/
namespace Go.Proofs.Ytjnnoabaepmcnaa

/-- A switch: two rows and two columns. -/
structure Sw where
  y1 : Int
  y2 : Int
  x1 : Int
  x2 : Int
instance : DecidableEq Sw := fun a b =>
  if h : a.y1 = b.y1 ∧ a.y2 = b.y2 ∧ a.x1 = b.x1 ∧ a.x2 = b.x2 then isTrue (by obtain ⟨a1, a2, a3, a4⟩ := a; obtain ⟨b1, b2, b3, b4⟩ := b; simp only at h; obtain ⟨rfl, rfl, rfl, rfl⟩ := h; rfl)
  else isFalse fun e => h (by rw [e]; exact ⟨rfl, rfl, rfl, rfl⟩)
def zeroSw : Sw := ⟨0, 0, 0, 0⟩
/-- The cell of a list. -/
def cellM (m : List (List Int)) (y x : Nat) : Int := (m.getD y []).getD x 0
theorem cell_mk (R C : Nat) (f : Nat → Nat → Int) {y x : Nat} (hy : y < R) (hx : x < C) : cellM (mkM R C f) y x = f y x := by
  simp [cellM, mkM, rowF, hy, hx]
theorem mk_cell (R C : Nat) (f : Nat → Nat → Int) : mkM R C (cellM (mkM R C f)) = mkM R C f := mkM_congr fun _ _ hy hx => cell_mk R C f hy hx
/-- The four cells of a switch, by number. -/
def four (R C : Nat) (f : Nat → Nat → Int) (a b c d : Nat) : Bool :=
  decide (a < b) && decide (c < d) && decide (b < R) && decide (d < C) && decide (f b d = f a c) && decide (f a d = 1 - f a c) && decide (f b c = 1 - f a c)
theorem four_iff {R C : Nat} {f : Nat → Nat → Int} {a b c d : Nat} : four R C f a b c d = true ↔ a < b ∧ c < d ∧ b < R ∧ d < C ∧ f b d = f a c ∧ f a d = 1 - f a c ∧ f b c = 1 - f a c := by
  simp [four, Bool.and_eq_true, and_assoc]
/-- A switch of an image. -/
def swF (R C : Nat) (f : Nat → Nat → Int) (s : Sw) : Bool :=
  decide (0 ≤ s.y1) && decide (0 ≤ s.x1) && decide (s.y1 < s.y2) && decide (s.x1 < s.x2) && four R C f s.y1.toNat s.y2.toNat s.x1.toNat s.x2.toNat
theorem swF_iff {R C : Nat} {f : Nat → Nat → Int} {s : Sw} : swF R C f s = true ↔ ∃ a b c d : Nat, s = ⟨a, b, c, d⟩ ∧ four R C f a b c d = true := by
  constructor
  · intro h
    simp only [swF, Bool.and_eq_true, decide_eq_true_eq] at h
    obtain ⟨⟨⟨⟨h1, h2⟩, h3⟩, h4⟩, h5⟩ := h
    refine ⟨_, _, _, _, ?_, h5⟩
    obtain ⟨y1, y2, x1, x2⟩ := s
    simp only at h1 h2 h3 h4 ⊢
    rw [Int.toNat_of_nonneg h1, Int.toNat_of_nonneg (by omega), Int.toNat_of_nonneg h2, Int.toNat_of_nonneg (by omega)]
  · rintro ⟨a, b, c, d, rfl, h⟩
    have := four_iff.1 h
    simp only [swF, Bool.and_eq_true, decide_eq_true_eq]
    exact ⟨⟨⟨⟨by omega, by omega⟩, by omega⟩, by omega⟩, by simpa using h⟩
theorem four_congr {R C : Nat} {f g : Nat → Nat → Int} (h : ∀ y x, y < R → x < C → f y x = g y x) (a b c d : Nat) : four R C f a b c d = four R C g a b c d := by
  rw [Bool.eq_iff_iff, four_iff, four_iff]
  constructor
  · rintro ⟨h1, h2, h3, h4, h5⟩
    rw [h b d h3 h4, h a c (by omega) (by omega), h a d (by omega) h4, h b c h3 (by omega)] at h5
    exact ⟨h1, h2, h3, h4, h5⟩
  · rintro ⟨h1, h2, h3, h4, h5⟩
    rw [← h b d h3 h4, ← h a c (by omega) (by omega), ← h a d (by omega) h4, ← h b c h3 (by omega)] at h5
    exact ⟨h1, h2, h3, h4, h5⟩
theorem swF_congr {R C : Nat} {f g : Nat → Nat → Int} (h : ∀ y x, y < R → x < C → f y x = g y x) (s : Sw) : swF R C f s = swF R C g s := by
  unfold swF; rw [four_congr h]
/-- The cells after a switch. -/
def flipN (f : Nat → Nat → Int) (a b c d : Nat) (y x : Nat) : Int := if (y = a ∨ y = b) ∧ (x = c ∨ x = d) then 1 - f y x else f y x
def flipF (f : Nat → Nat → Int) (s : Sw) : Nat → Nat → Int := flipN f s.y1.toNat s.y2.toNat s.x1.toNat s.x2.toNat
theorem flipN_img {R C : Nat} {f : Nat → Nat → Int} (h : Img R C f) (a b c d : Nat) : Img R C (flipN f a b c d) :=
  ⟨h.r1, h.r2, h.c1, h.c2, fun y x hy hx => by unfold flipN; split <;> rcases h.cell y x hy hx with e | e <;> simp [e]⟩
theorem flipF_img {R C : Nat} {f : Nat → Nat → Int} (h : Img R C f) (s : Sw) : Img R C (flipF f s) := flipN_img h _ _ _ _
theorem flipN_flip (f : Nat → Nat → Int) (a b c d : Nat) : flipN (flipN f a b c d) a b c d = f := by
  funext y x
  unfold flipN
  by_cases h : (y = a ∨ y = b) ∧ (x = c ∨ x = d)
  · rw [if_pos h, if_pos h]; omega
  · rw [if_neg h, if_neg h]
theorem flipF_flip (f : Nat → Nat → Int) (s : Sw) : flipF (flipF f s) s = f := flipN_flip f _ _ _ _
theorem flipN_congr {R C : Nat} {f g : Nat → Nat → Int} (h : ∀ y x, y < R → x < C → f y x = g y x) (a b c d : Nat) : ∀ y x, y < R → x < C → flipN f a b c d y x = flipN g a b c d y x := by
  intro y x hy hx; unfold flipN; rw [h y x hy hx]
theorem four_flip {R C : Nat} {f : Nat → Nat → Int} {a b c d : Nat} (h : four R C f a b c d = true) : four R C (flipN f a b c d) a b c d = true := by
  have := four_iff.1 h
  refine four_iff.2 ⟨this.1, this.2.1, this.2.2.1, this.2.2.2.1, ?_⟩
  unfold flipN
  simp
  omega
theorem swF_flip {R C : Nat} {f : Nat → Nat → Int} {s : Sw} (h : swF R C f s = true) : swF R C (flipF f s) s = true := by
  obtain ⟨a, b, c, d, rfl, h'⟩ := swF_iff.1 h
  exact swF_iff.2 ⟨a, b, c, d, rfl, by simpa [flipF] using four_flip h'⟩

/-- The same of lists. -/
def swB (m : List (List Int)) (s : Sw) : Bool := swF m.length (widthM m) (cellM m) s
def flipM (m : List (List Int)) (s : Sw) : List (List Int) := mkM m.length (widthM m) (flipF (cellM m) s)
theorem swB_mk {R C : Nat} {f : Nat → Nat → Int} (h : Img R C f) (s : Sw) : swB (mkM R C f) s = swF R C f s := by
  have := h.r1
  unfold swB
  rw [mkM_len, width_mkM (by omega)]
  exact swF_congr (fun y x hy hx => cell_mk R C f hy hx) s
theorem flipM_mk {R C : Nat} {f : Nat → Nat → Int} (h : Img R C f) (s : Sw) : flipM (mkM R C f) s = mkM R C (flipF f s) := by
  have := h.r1
  unfold flipM
  rw [mkM_len, width_mkM (by omega)]
  exact mkM_congr (flipN_congr (fun y x hy hx => cell_mk R C f hy hx) _ _ _ _)

/-- A node: a list that is a valid image of this size. -/
def Node (R C : Nat) (m : List (List Int)) : Prop := ∃ f, m = mkM R C f ∧ Img R C f
theorem node_flip {R C : Nat} {m : List (List Int)} (h : Node R C m) (s : Sw) : Node R C (flipM m s) := by
  obtain ⟨f, rfl, h⟩ := h
  exact ⟨_, flipM_mk h s, flipF_img h s⟩
theorem flip_back {R C : Nat} {m : List (List Int)} (h : Node R C m) (s : Sw) : flipM (flipM m s) s = m := by
  obtain ⟨f, rfl, h⟩ := h
  rw [flipM_mk h, flipM_mk (flipF_img h s), flipF_flip]
theorem swB_back {R C : Nat} {m : List (List Int)} (h : Node R C m) {s : Sw} (hs : swB m s = true) : swB (flipM m s) s = true := by
  obtain ⟨f, rfl, h⟩ := h
  rw [swB_mk h] at hs
  rw [flipM_mk h, swB_mk (flipF_img h s)]
  exact swF_flip hs

/-- Switches one after the other. -/
def goM : List (List Int) → List Sw → Option (List (List Int))
  | m, [] => some m
  | m, s :: p => if swB m s then goM (flipM m s) p else none
theorem goM_append (m : List (List Int)) (p q : List Sw) : goM m (p ++ q) = (goM m p).bind fun t => goM t q := by
  induction p generalizing m with
  | nil => rfl
  | cons s p ih =>
    simp only [List.cons_append, goM]
    split
    · exact ih _
    · rfl
theorem goM_snoc {m t : List (List Int)} {p : List Sw} {s : Sw} (h : goM m p = some t) (hs : swB t s = true) : goM m (p ++ [s]) = some (flipM t s) := by
  rw [goM_append, h]
  simp [goM, hs]
theorem goM_unsnoc {m u : List (List Int)} {p : List Sw} {s : Sw} (h : goM m (p ++ [s]) = some u) : ∃ t, goM m p = some t ∧ swB t s = true ∧ u = flipM t s := by
  rw [goM_append] at h
  cases ht : goM m p with
  | none => rw [ht] at h; cases h
  | some t =>
    rw [ht] at h
    simp only [Option.bind_some, goM] at h
    split at h
    · rename_i hs; exact ⟨t, rfl, hs, (Option.some.inj h).symm⟩
    · cases h
theorem goM_node {R C : Nat} {m t : List (List Int)} {p : List Sw} (hm : Node R C m) (h : goM m p = some t) : Node R C t := by
  induction p generalizing m with
  | nil => cases h; exact hm
  | cons s p ih =>
    simp only [goM] at h
    split at h
    · exact ih (node_flip hm s) h
    · cases h
theorem goM_rev {R C : Nat} {m t : List (List Int)} {p : List Sw} (hm : Node R C m) (h : goM m p = some t) : goM t p.reverse = some m := by
  induction p generalizing m with
  | nil => cases h; rfl
  | cons s p ih =>
    simp only [goM] at h
    split at h
    · rename_i hs
      rw [List.reverse_cons]
      have := goM_snoc (ih (node_flip hm s) h) (swB_back hm hs)
      rw [flip_back hm s] at this
      exact this
    · cases h

/-- A switch by its number, and its number. -/
def decS (i : Nat) : Sw := ⟨((i / 125 : Nat) : Int), ((i / 25 % 5 : Nat) : Int), ((i / 5 % 5 : Nat) : Int), ((i % 5 : Nat) : Int)⟩
def codeS (s : Sw) : Int := ((s.y1 * 5 + s.y2) * 5 + s.x1) * 5 + s.x2
theorem code_dec (i : Nat) : codeS (decS i) = i := by unfold codeS decS; simp only; omega
/-- The switches up to a number, in order. -/
def upS (m : List (List Int)) (k : Nat) : List Sw := ((List.range k).filter fun i => swB m (decS i)).map decS
theorem upS_zero (m : List (List Int)) : upS m 0 = [] := rfl
theorem upS_yes {m : List (List Int)} {k : Nat} (h : swB m (decS k) = true) : upS m (k + 1) = upS m k ++ [decS k] := by
  unfold upS; rw [List.range_succ, List.filter_append, List.map_append]; simp [h]
theorem upS_no {m : List (List Int)} {k : Nat} (h : swB m (decS k) = false) : upS m (k + 1) = upS m k := by
  unfold upS; rw [List.range_succ, List.filter_append, List.map_append]; simp [h]
theorem upS_skip {m : List (List Int)} {k l : Nat} (hkl : k ≤ l) (h : ∀ i, k ≤ i → i < l → swB m (decS i) = false) : upS m l = upS m k := by
  induction l with
  | zero => obtain rfl : k = 0 := by omega
            rfl
  | succ l ih =>
    by_cases e : k = l + 1
    · rw [e]
    · rw [upS_no (h l (by omega) (by omega)), ih (by omega) fun i h1 h2 => h i h1 (by omega)]
def swsM (m : List (List Int)) : List Sw := upS m 625
theorem upS_len (m : List (List Int)) (k : Nat) : (upS m k).length ≤ k := by
  unfold upS; rw [List.length_map]
  exact Nat.le_trans (List.length_filter_le _ _) (by rw [List.length_range]; exact Nat.le_refl _)
theorem upS_mem {m : List (List Int)} {k : Nat} {s : Sw} (h : s ∈ upS m k) : swB m s = true ∧ ∃ i, i < k ∧ s = decS i := by
  unfold upS at h
  simp only [List.mem_map, List.mem_filter, List.mem_range] at h
  obtain ⟨i, ⟨h1, h2⟩, rfl⟩ := h
  exact ⟨h2, i, h1, rfl⟩
theorem sws_mem {R C : Nat} {m : List (List Int)} (hm : Node R C m) {s : Sw} : s ∈ swsM m ↔ swB m s = true := by
  refine ⟨fun h => (upS_mem h).1, fun h => ?_⟩
  obtain ⟨f, rfl, hI⟩ := hm
  have h0 := h
  rw [swB_mk hI] at h
  obtain ⟨a, b, c, d, rfl, hf⟩ := swF_iff.1 h
  have hf := four_iff.1 hf
  have := hI.r2; have := hI.c2
  unfold swsM upS
  simp only [List.mem_map, List.mem_filter, List.mem_range]
  have e : decS (((a * 5 + b) * 5 + c) * 5 + d) = ⟨a, b, c, d⟩ := by
    unfold decS
    rw [show (((a * 5 + b) * 5 + c) * 5 + d) / 125 = a by omega, show (((a * 5 + b) * 5 + c) * 5 + d) / 25 % 5 = b by omega, show (((a * 5 + b) * 5 + c) * 5 + d) / 5 % 5 = c by omega, show (((a * 5 + b) * 5 + c) * 5 + d) % 5 = d by omega]
  exact ⟨((a * 5 + b) * 5 + c) * 5 + d, ⟨by omega, by rw [e]; exact h0⟩, e⟩
/-- One switch comes before another. -/
def swlt (a b : Sw) : Prop := codeS a < codeS b
theorem upS_sorted (m : List (List Int)) (k : Nat) : (upS m k).Pairwise swlt := by
  unfold upS
  rw [List.pairwise_map]
  refine List.Pairwise.imp ?_ (List.Pairwise.filter _ (List.pairwise_lt_range (n := k)))
  intro a b h
  unfold swlt; rw [code_dec, code_dec]; omega
end Go.Proofs.Ytjnnoabaepmcnaa
/-
  Lists of switches by a number: the shorter ones first, equally long ones in order.
-/
namespace Go.Proofs.Ytjnnoabaepmcnaa

/-- The number of a switch, from 1 up to 625. -/
def numS (s : Sw) : Nat := (codeS s).toNat + 1
theorem num_dec (i : Nat) : numS (decS i) = i + 1 := by unfold numS; rw [code_dec]; rfl
def val (p : List Sw) : Nat := p.foldl (fun v s => v * 626 + numS s) 0
theorem val_nil : val [] = 0 := rfl
theorem val_snoc (p : List Sw) (s : Sw) : val (p ++ [s]) = val p * 626 + numS s := by simp [val, List.foldl_append]
theorem foldl_val (p : List Sw) : ∀ v, p.foldl (fun v s => v * 626 + numS s) v = v * 626 ^ p.length + val p := by
  induction p with
  | nil => intro v; simp [val]
  | cons s p ih =>
    intro v
    have h0 := ih (v * 626 + numS s)
    have h1 := ih (0 * 626 + numS s)
    unfold val
    simp only [List.foldl_cons, List.length_cons] at h0 h1 ⊢
    rw [h0, h1, Nat.pow_succ, Nat.add_mul, Nat.mul_assoc, Nat.mul_comm 626, Nat.zero_mul, Nat.zero_add, Nat.add_assoc]
theorem val_append (p q : List Sw) : val (p ++ q) = val p * 626 ^ q.length + val q := by
  have := foldl_val q (val p)
  unfold val at this ⊢
  rw [List.foldl_append, this]
theorem val_cons (s : Sw) (p : List Sw) : val (s :: p) = numS s * 626 ^ p.length + val p := by
  have := val_append [s] p
  simpa [val] using this
/-- Switches with numbers in their range. -/
def InR (p : List Sw) : Prop := ∀ s ∈ p, 1 ≤ numS s ∧ numS s ≤ 625
theorem inR_snoc {p : List Sw} {s : Sw} : InR (p ++ [s]) ↔ InR p ∧ (1 ≤ numS s ∧ numS s ≤ 625) := by
  unfold InR
  constructor
  · intro h; exact ⟨fun t ht => h t (by simp [ht]), h s (by simp)⟩
  · rintro ⟨h1, h2⟩ t ht
    rcases List.mem_append.1 ht with h | h
    · exact h1 t h
    · rw [List.mem_singleton] at h; subst h; exact h2
theorem inR_cons {p : List Sw} {s : Sw} : InR (s :: p) ↔ (1 ≤ numS s ∧ numS s ≤ 625) ∧ InR p := by
  unfold InR
  constructor
  · intro h; exact ⟨h s (by simp), fun t ht => h t (by simp [ht])⟩
  · rintro ⟨h1, h2⟩ t ht
    rcases List.mem_cons.1 ht with h | h
    · subst h; exact h1
    · exact h2 t h
theorem snoc_ind {α : Type} {C : List α → Prop} (h0 : C []) (h1 : ∀ p s, C p → C (p ++ [s])) : ∀ p, C p := by
  intro p
  have : ∀ n (p : List α), p.length = n → C p := by
    intro n
    induction n with
    | zero => intro p hp; rw [List.eq_nil_of_length_eq_zero hp]; exact h0
    | succ n ih =>
      intro p hp
      rcases List.eq_nil_or_concat p with rfl | ⟨q, b, rfl⟩
      · simp at hp
      · rw [List.concat_eq_append] at hp ⊢
        exact h1 q b (ih q (by simpa using hp))
  exact this _ p rfl
theorem val_lt {p : List Sw} (h : InR p) : val p + 1 ≤ 626 ^ p.length := by
  induction p using snoc_ind with
  | h0 => simp [val]
  | h1 p s ih =>
    obtain ⟨h1, h2⟩ := inR_snoc.1 h
    have := ih h1
    rw [val_snoc, List.length_append, List.length_singleton, Nat.pow_succ]
    omega
theorem val_ge {p : List Sw} (h : InR p) : 626 ^ p.length ≤ 626 * val p + 1 := by
  induction p using snoc_ind with
  | h0 => simp [val]
  | h1 p s ih =>
    obtain ⟨h1, h2⟩ := inR_snoc.1 h
    have := ih h1
    rw [val_snoc, List.length_append, List.length_singleton, Nat.pow_succ]
    omega
theorem val_short {p q : List Sw} (hp : InR p) (hq : InR q) (h : p.length < q.length) : val p < val q := by
  have h1 := val_lt hp
  have h2 := val_ge hq
  have h3 : 626 ^ (p.length + 1) ≤ 626 ^ q.length := Nat.pow_le_pow_right (by decide) h
  rw [Nat.pow_succ] at h3
  omega
theorem val_inj {p : List Sw} : ∀ {q : List Sw}, InR p → InR q → (∀ s ∈ p, ∃ i, i < 625 ∧ s = decS i) → (∀ s ∈ q, ∃ i, i < 625 ∧ s = decS i) → val p = val q → p = q := by
  induction p using snoc_ind with
  | h0 =>
    intro q _ hq _ _ h
    rcases List.eq_nil_or_concat q with rfl | ⟨q', b, rfl⟩
    · rfl
    · rw [List.concat_eq_append] at h hq
      have := (inR_snoc.1 hq).2
      rw [val_snoc, val_nil] at h
      omega
  | h1 p s ih =>
    intro q hp hq hp2 hq2 h
    obtain ⟨hp1, hs⟩ := inR_snoc.1 hp
    rcases List.eq_nil_or_concat q with rfl | ⟨q', b, rfl⟩
    · rw [val_snoc, val_nil] at h; omega
    · rw [List.concat_eq_append] at h hq hq2 ⊢
      obtain ⟨hq1, hb⟩ := inR_snoc.1 hq
      rw [val_snoc, val_snoc] at h
      have e1 : val p = val q' := by omega
      have e2 : numS s = numS b := by omega
      obtain ⟨i, hi, rfl⟩ := hp2 s (by simp)
      obtain ⟨j, hj, rfl⟩ := hq2 b (by simp)
      rw [num_dec, num_dec] at e2
      obtain rfl : i = j := by omega
      rw [ih hp1 hq1 (fun t ht => hp2 t (by simp [ht])) (fun t ht => hq2 t (by simp [ht])) e1]

/-- Each switch of an image has a number. -/
theorem swB_num {R C : Nat} {m : List (List Int)} (hm : Node R C m) {s : Sw} (h : swB m s = true) : ∃ i, i < 625 ∧ s = decS i := (upS_mem ((sws_mem hm).2 h)).2
theorem goM_inR {R C : Nat} : ∀ (p : List Sw) {m t : List (List Int)}, Node R C m → goM m p = some t → (∀ s ∈ p, ∃ i, i < 625 ∧ s = decS i)
  | [], _, _, _, _ => fun s hs => by simp at hs
  | s :: p, m, t, hm, h => by
    simp only [goM] at h
    split at h
    · rename_i hs
      intro u hu
      rcases List.mem_cons.1 hu with rfl | hu
      · exact swB_num hm hs
      · exact goM_inR p (node_flip hm s) h u hu
    · cases h
theorem inR_of {p : List Sw} (h : ∀ s ∈ p, ∃ i, i < 625 ∧ s = decS i) : InR p := fun s hs => by
  obtain ⟨i, hi, rfl⟩ := h s hs
  rw [num_dec]; omega
/-- A path that comes before all others. -/
def Best (m t : List (List Int)) (p : List Sw) : Prop := goM m p = some t ∧ ∀ q, goM m q = some t → val p ≤ val q
theorem best_one {R C : Nat} {m t : List (List Int)} {p q : List Sw} (hm : Node R C m) (h1 : Best m t p) (h2 : Best m t q) : p = q := by
  have a := goM_inR p hm h1.1; have b := goM_inR q hm h2.1
  exact val_inj (inR_of a) (inR_of b) a b (Nat.le_antisymm (h1.2 q h2.1) (h2.2 p h1.1))
theorem best_len {R C : Nat} {m t : List (List Int)} {p q : List Sw} (hm : Node R C m) (h : Best m t p) (hq : goM m q = some t) : p.length ≤ q.length := by
  refine Nat.le_of_not_lt fun hl => ?_
  have := val_short (inR_of (goM_inR q hm hq)) (inR_of (goM_inR p hm h.1)) hl
  have := h.2 q hq
  omega
/-- The rest of such a path is one too. -/
theorem best_tail {R C : Nat} {m t : List (List Int)} {s : Sw} {p : List Sw} (hm : Node R C m) (h : Best m t (s :: p)) : swB m s = true ∧ Best (flipM m s) t p := by
  obtain ⟨h1, h2⟩ := h
  simp only [goM] at h1
  split at h1
  · rename_i hs
    refine ⟨hs, h1, fun q hq => ?_⟩
    have hn := node_flip hm s
    have hg : goM m (s :: q) = some t := by simp only [goM, hs, if_true]; exact hq
    have h3 := h2 _ hg
    have ip := inR_of (goM_inR p hn h1); have iq := inR_of (goM_inR q hn hq)
    rcases Nat.lt_trichotomy p.length q.length with hl | hl | hl
    · exact Nat.le_of_lt (val_short ip iq hl)
    · rw [val_cons, val_cons, hl] at h3; omega
    · exfalso
      have i1 := inR_of (goM_inR (s :: q) hm hg)
      have i2 := inR_of (goM_inR (s :: p) hm (by simp only [goM, hs, if_true]; exact h1))
      have := val_short i1 i2 (by simp only [List.length_cons]; omega)
      omega
  · cases h1
theorem best_nil (m : List (List Int)) : Best m m [] := ⟨rfl, fun _ _ => Nat.zero_le _⟩
end Go.Proofs.Ytjnnoabaepmcnaa
/-
  Any two images with the same sums are joined by switches: twice as many as there are differences, at most; and four times as many at least.
-/
namespace Go.Proofs.Ytjnnoabaepmcnaa

theorem cnt_upd {p q : Nat → Bool} {j : Nat} : ∀ {N : Nat}, j < N → (∀ i, i < N → i ≠ j → p i = q i) → cnt p N + (if q j = true then 1 else 0) = cnt q N + (if p j = true then 1 else 0)
  | 0, h, _ => absurd h (Nat.not_lt_zero _)
  | N + 1, h, e => by
    by_cases hj : j = N
    · subst hj
      have : cnt p j = cnt q j := cnt_congr fun i hi => e i (by omega) (by omega)
      simp only [cnt, this]; omega
    · have h1 := cnt_upd (p := p) (q := q) (N := N) (by omega) fun i hi hne => e i (by omega) hne
      have h2 := e N (by omega) (fun h => hj h.symm)
      simp only [cnt, h2]; omega
theorem cnt_mono {p q : Nat → Bool} : ∀ {N : Nat}, (∀ i, i < N → q i = true → p i = true) → cnt q N ≤ cnt p N
  | 0, _ => Nat.le_refl _
  | N + 1, h => by
    have h1 := cnt_mono (p := p) (q := q) (N := N) fun i hi => h i (by omega)
    have h2 := h N (by omega)
    simp only [cnt]
    cases hq : q N <;> cases hp : p N <;> simp_all <;> omega
theorem cnt_less {p q : Nat → Bool} {j : Nat} : ∀ {N : Nat}, j < N → (∀ i, i < N → q i = true → p i = true) → p j = true → q j = false → cnt q N < cnt p N
  | 0, h, _, _, _ => absurd h (Nat.not_lt_zero _)
  | N + 1, h, e, hp, hq => by
    by_cases hj : j = N
    · subst hj
      have := cnt_mono (p := p) (q := q) (N := j) fun i hi => e i (by omega)
      simp only [cnt, hp, hq]; simp; omega
    · have h1 := cnt_less (p := p) (q := q) (N := N) (by omega) (fun i hi => e i (by omega)) hp hq
      have h2 := e N (by omega)
      simp only [cnt]
      cases hq' : q N <;> cases hp' : p N <;> simp_all <;> omega
theorem cnt_other {p q : Nat → Bool} {N x : Nat} (h : cnt p N = cnt q N) (hx : x < N) (hp : p x = true) (hq : q x = false) : ∃ y, y < N ∧ p y = false ∧ q y = true := by
  refine Classical.byContradiction fun hn => ?_
  have := cnt_less (p := p) (q := q) hx (fun i hi hqi => by
    cases hpi : p i with
    | true => rfl
    | false => exact absurd ⟨i, hi, hpi, hqi⟩ hn) hp hq
  omega
theorem max_row (P : Nat → Nat) : ∀ N, 0 < N → ∃ r, r < N ∧ ∀ i, i < N → P i ≤ P r
  | 0, h => absurd h (Nat.not_lt_zero _)
  | N + 1, _ => by
    by_cases hN : N = 0
    · subst hN; exact ⟨0, by omega, fun i hi => by obtain rfl : i = 0 := by omega
                                                   exact Nat.le_refl _⟩
    · obtain ⟨r, hr, h⟩ := max_row P N (by omega)
      by_cases e : P r ≤ P N
      · exact ⟨N, by omega, fun i hi => by
          by_cases hi' : i = N
          · rw [hi']; exact Nat.le_refl _
          · have := h i (by omega); omega⟩
      · exact ⟨r, by omega, fun i hi => by
          by_cases hi' : i = N
          · rw [hi']; omega
          · exact h i (by omega)⟩

/-- How many cells differ. -/
def diff (R C : Nat) (f g : Nat → Nat → Int) : Nat := cnt (fun i => imgF R C f i != imgF R C g i) 25
theorem diff_symm (R C : Nat) (f g : Nat → Nat → Int) : diff R C f g = diff R C g f := cnt_congr fun i _ => by
  rw [Bool.eq_iff_iff, bne_iff_ne, bne_iff_ne]; exact ⟨Ne.symm, Ne.symm⟩
theorem bne_in {R C : Nat} {f g : Nat → Nat → Int} {y x : Nat} (hy : y < R) (hx : x < C) (hC : C ≤ 5) : (imgF R C f (5 * y + x) != imgF R C g (5 * y + x)) = (f y x != g y x) := by
  rw [imgF_at _ _ _ _ _ (by omega), imgF_at _ _ _ _ _ (by omega), if_pos ⟨hy, hx⟩, if_pos ⟨hy, hx⟩]
def ne1 (a b : Int) : Nat := if a = b then 0 else 1
theorem ne1_if (a b : Int) : (if (a != b) = true then 1 else 0) = ne1 a b := by
  unfold ne1
  by_cases e : a = b
  · subst e; simp
  · simp [e]
theorem flip_in (f : Nat → Nat → Int) (a b c d : Nat) {y x : Nat} (h : (y = a ∨ y = b) ∧ (x = c ∨ x = d)) : flipN f a b c d y x = 1 - f y x := by unfold flipN; rw [if_pos h]
theorem flip_out (f : Nat → Nat → Int) (a b c d : Nat) {y x : Nat} (h : ¬ ((y = a ∨ y = b) ∧ (x = c ∨ x = d))) : flipN f a b c d y x = f y x := by unfold flipN; rw [if_neg h]
/-- The differences behind a switch. -/
theorem diff_flip {R C : Nat} (f g : Nat → Nat → Int) {a b c d : Nat} (hR : R ≤ 5) (hC : C ≤ 5) (hab : a ≠ b) (hcd : c ≠ d) (ha : a < R) (hb : b < R) (hc : c < C) (hd : d < C) :
    diff R C (flipN f a b c d) g + (ne1 (f a c) (g a c) + ne1 (f a d) (g a d) + ne1 (f b c) (g b c) + ne1 (f b d) (g b d)) =
      diff R C f g + (ne1 (1 - f a c) (g a c) + ne1 (1 - f a d) (g a d) + ne1 (1 - f b c) (g b c) + ne1 (1 - f b d) (g b d)) := by
  unfold diff
  obtain ⟨p, hp⟩ : ∃ p : Nat → Bool, p = fun i => imgF R C f i != imgF R C g i := ⟨_, rfl⟩
  obtain ⟨q, hq⟩ : ∃ q : Nat → Bool, q = fun i => imgF R C (flipN f a b c d) i != imgF R C g i := ⟨_, rfl⟩
  have hpv : ∀ y x, y < R → x < C → p (5 * y + x) = (f y x != g y x) := fun y x hy hx => by rw [hp]; exact bne_in hy hx hC
  have hqv : ∀ y x, y < R → x < C → (y = a ∨ y = b) ∧ (x = c ∨ x = d) → q (5 * y + x) = (1 - f y x != g y x) := fun y x hy hx h => by
    rw [hq]
    have := bne_in (f := flipN f a b c d) (g := g) hy hx hC
    rw [flip_in f a b c d h] at this; exact this
  have hsame : ∀ i, i < 25 → i ≠ 5 * a + c → i ≠ 5 * a + d → i ≠ 5 * b + c → i ≠ 5 * b + d → q i = p i := fun i hi h1 h2 h3 h4 => by
    rw [hp, hq]
    have e : imgF R C (flipN f a b c d) i = imgF R C f i := by
      unfold imgF
      by_cases hh : i / 5 < R ∧ i % 5 < C
      · rw [if_pos hh, if_pos hh, flip_out]
        intro hx
        omega
      · rw [if_neg hh, if_neg hh]
    simp only [e]
  have e1 := cnt_upd (p := q) (q := fun i => if i = 5 * a + c then p i else q i) (j := 5 * a + c) (N := 25) (by omega) (fun i _ h => by simp [h])
  have e2 := cnt_upd (p := fun i => if i = 5 * a + c then p i else q i) (q := fun i => if i = 5 * a + c ∨ i = 5 * a + d then p i else q i) (j := 5 * a + d) (N := 25) (by omega) (fun i _ h => by simp [h])
  have e3 := cnt_upd (p := fun i => if i = 5 * a + c ∨ i = 5 * a + d then p i else q i) (q := fun i => if i = 5 * a + c ∨ i = 5 * a + d ∨ i = 5 * b + c then p i else q i) (j := 5 * b + c) (N := 25) (by omega) (fun i _ h => by simp [h])
  have e4 := cnt_upd (p := fun i => if i = 5 * a + c ∨ i = 5 * a + d ∨ i = 5 * b + c then p i else q i) (q := p) (j := 5 * b + d) (N := 25) (by omega) (fun i hi h => by
    by_cases hh : i = 5 * a + c ∨ i = 5 * a + d ∨ i = 5 * b + c
    · simp [hh]
    · simp only [hh, if_false]
      exact hsame i hi (fun e => hh (.inl e)) (fun e => hh (.inr (.inl e))) (fun e => hh (.inr (.inr e))) h)
  have n1 : ¬ (5 * a + d = 5 * a + c) := by omega
  have n2 : ¬ (5 * b + c = 5 * a + c ∨ 5 * b + c = 5 * a + d) := by omega
  have n3 : ¬ (5 * b + d = 5 * a + c ∨ 5 * b + d = 5 * a + d ∨ 5 * b + d = 5 * b + c) := by omega
  simp only [if_true, n1, n2, n3, if_false, or_true] at e1 e2 e3 e4
  rw [hpv a c ha hc, hqv a c ha hc ⟨.inl rfl, .inl rfl⟩, ne1_if, ne1_if] at e1
  rw [hpv a d ha hd, hqv a d ha hd ⟨.inl rfl, .inr rfl⟩, ne1_if, ne1_if] at e2
  rw [hpv b c hb hc, hqv b c hb hc ⟨.inr rfl, .inl rfl⟩, ne1_if, ne1_if] at e3
  rw [hpv b d hb hd, hqv b d hb hd ⟨.inr rfl, .inr rfl⟩, ne1_if, ne1_if] at e4
  rw [← hp, ← hq]
  omega
theorem ne1_le (a b : Int) : ne1 a b ≤ 1 := by unfold ne1; split <;> omega
theorem diff_near {R C : Nat} (f g : Nat → Nat → Int) {a b c d : Nat} (hR : R ≤ 5) (hC : C ≤ 5) (hab : a ≠ b) (hcd : c ≠ d) (ha : a < R) (hb : b < R) (hc : c < C) (hd : d < C) : diff R C f g ≤ diff R C (flipN f a b c d) g + 4 := by
  have := diff_flip f g hR hC hab hcd ha hb hc hd
  have := ne1_le (f a c) (g a c); have := ne1_le (f a d) (g a d); have := ne1_le (f b c) (g b c); have := ne1_le (f b d) (g b d)
  omega

/-- The same sums. -/
def SameF (R C : Nat) (f g : Nat → Nat → Int) : Prop := (∀ y, y < R → rs C f y = rs C g y) ∧ ∀ x, x < C → cs R f x = cs R g x
theorem sameF_symm {R C : Nat} {f g : Nat → Nat → Int} (h : SameF R C f g) : SameF R C g f := ⟨fun y hy => (h.1 y hy).symm, fun x hx => (h.2 x hx).symm⟩
theorem sameF_trans {R C : Nat} {f g k : Nat → Nat → Int} (h : SameF R C f g) (h2 : SameF R C g k) : SameF R C f k := ⟨fun y hy => (h.1 y hy).trans (h2.1 y hy), fun x hx => (h.2 x hx).trans (h2.2 x hx)⟩
theorem cnt_two {p q : Nat → Bool} {N c d : Nat} (hc : c < N) (hd : d < N) (hcd : c ≠ d) (h : ∀ i, i < N → i ≠ c → i ≠ d → p i = q i) (h1 : p c = q d) (h2 : p d = q c) : cnt p N = cnt q N := by
  have e1 := cnt_upd (p := p) (q := fun i => if i = c then q i else p i) (j := c) (N := N) hc (fun i _ h => by simp [h])
  have e2 := cnt_upd (p := fun i => if i = c then q i else p i) (q := q) (j := d) (N := N) hd (fun i hi hne => by
    by_cases hh : i = c
    · simp [hh]
    · simp only [hh, if_false]; exact h i hi hh hne)
  have n : ¬ d = c := fun e => hcd e.symm
  simp only [if_true, n, if_false] at e1 e2
  rw [h1] at e1; rw [h2] at e2
  omega
theorem sameF_flip {R C : Nat} {f : Nat → Nat → Int} {a b c d : Nat} (h : four R C f a b c d = true) (hI : Img R C f) : SameF R C (flipN f a b c d) f := by
  obtain ⟨h1, h2, h3, h4, h5, h6, h7⟩ := four_iff.1 h
  have hv := hI.cell a c (by omega) (by omega)
  constructor
  · intro y hy
    unfold rs
    by_cases hh : y = a ∨ y = b
    · refine cnt_two (c := c) (d := d) (by omega) (by omega) (by omega) (fun i _ n1 n2 => by rw [flip_out f a b c d (by omega)]) ?_ ?_
      · rw [flip_in f a b c d ⟨hh, .inl rfl⟩]
        rcases hh with rfl | rfl
        · rw [h6]
        · rw [h7, h5]; congr 1; omega
      · rw [flip_in f a b c d ⟨hh, .inr rfl⟩]
        rcases hh with rfl | rfl
        · rw [h6]; congr 1; omega
        · rw [h7, h5]
    · exact cnt_congr fun x _ => by rw [flip_out f a b c d (fun e => hh e.1)]
  · intro x hx
    unfold cs
    by_cases hh : x = c ∨ x = d
    · refine cnt_two (c := a) (d := b) (by omega) (by omega) (by omega) (fun i _ n1 n2 => by rw [flip_out f a b c d (by omega)]) ?_ ?_
      · rw [flip_in f a b c d ⟨.inl rfl, hh⟩]
        rcases hh with rfl | rfl
        · rw [h7]
        · rw [h6, h5]; congr 1; omega
      · rw [flip_in f a b c d ⟨.inr rfl, hh⟩]
        rcases hh with rfl | rfl
        · rw [h7]; congr 1; omega
        · rw [h6, h5]
    · exact cnt_congr fun y _ => by rw [flip_out f a b c d (fun e => hh e.2)]
theorem four_any {R C : Nat} {f : Nat → Nat → Int} {r1 r2 c1 c2 : Nat} (hr : r1 ≠ r2) (hc : c1 ≠ c2) (h1 : r1 < R) (h2 : r2 < R) (h3 : c1 < C) (h4 : c2 < C) (e1 : f r2 c2 = f r1 c1) (e2 : f r1 c2 = 1 - f r1 c1) (e3 : f r2 c1 = 1 - f r1 c1) :
    ∃ a b c d, four R C f a b c d = true ∧ ((a = r1 ∧ b = r2) ∨ (a = r2 ∧ b = r1)) ∧ ((c = c1 ∧ d = c2) ∨ (c = c2 ∧ d = c1)) := by
  rcases Nat.lt_or_gt_of_ne hr with a1 | a1 <;> rcases Nat.lt_or_gt_of_ne hc with a2 | a2
  · exact ⟨r1, r2, c1, c2, four_iff.2 ⟨a1, a2, h2, h4, e1, e2, e3⟩, .inl ⟨rfl, rfl⟩, .inl ⟨rfl, rfl⟩⟩
  · exact ⟨r1, r2, c2, c1, four_iff.2 ⟨a1, a2, h2, h3, by omega, by omega, by omega⟩, .inl ⟨rfl, rfl⟩, .inr ⟨rfl, rfl⟩⟩
  · exact ⟨r2, r1, c1, c2, four_iff.2 ⟨a1, a2, h1, h4, by omega, by omega, by omega⟩, .inr ⟨rfl, rfl⟩, .inl ⟨rfl, rfl⟩⟩
  · exact ⟨r2, r1, c2, c1, four_iff.2 ⟨a1, a2, h1, h3, by omega, by omega, by omega⟩, .inr ⟨rfl, rfl⟩, .inr ⟨rfl, rfl⟩⟩
/-- A switch of the one or of the other that makes them nearer. -/
theorem nearer {R C : Nat} {f g : Nat → Nat → Int} (hf : Img R C f) (hg : Img R C g) (hs : SameF R C f g) {y x : Nat} (hy : y < R) (hx : x < C) (hne : f y x ≠ g y x) :
    (∃ a b c d, four R C f a b c d = true ∧ diff R C (flipN f a b c d) g + 2 ≤ diff R C f g) ∨ ∃ a b c d, four R C g a b c d = true ∧ diff R C (flipN g a b c d) f + 2 ≤ diff R C g f := by
  have hR := hf.r2; have hC := hf.c2
  have row : ∀ {f g : Nat → Nat → Int}, Img R C f → Img R C g → SameF R C f g → ∀ {y x : Nat}, y < R → x < C → f y x = 1 → g y x = 0 → ∃ x', x' < C ∧ f y x' = 0 ∧ g y x' = 1 := by
    intro f g hf hg hs y x hy hx h1 h2
    obtain ⟨x', hx', q1, q2⟩ := cnt_other (hs.1 y hy) hx (by simp [h1]) (by simp [h2])
    have := hf.cell y x' hy hx'
    simp at q1 q2
    exact ⟨x', hx', by omega, q2⟩
  have col : ∀ {f g : Nat → Nat → Int}, Img R C f → Img R C g → SameF R C f g → ∀ {y x : Nat}, y < R → x < C → f y x = 1 → g y x = 0 → ∃ y', y' < R ∧ f y' x = 0 ∧ g y' x = 1 := by
    intro f g hf hg hs y x hy hx h1 h2
    obtain ⟨y', hy', q1, q2⟩ := cnt_other (hs.2 x hx) hy (by simp [h1]) (by simp [h2])
    have := hf.cell y' x hy' hx
    simp at q1 q2
    exact ⟨y', hy', by omega, q2⟩
  obtain ⟨P, hP⟩ : ∃ P : Nat → Nat, ∀ r, P r = cnt (fun x => f r x == 1 && g r x == 0) C := ⟨_, fun _ => rfl⟩
  have hpos : ∃ x, x < C ∧ f y x = 1 ∧ g y x = 0 := by
    rcases hf.cell y x hy hx with h1 | h1
    · have h2 : g y x = 1 := by have := hg.cell y x hy hx; omega
      obtain ⟨x', hx', q1, q2⟩ := row hg hf (sameF_symm hs) hy hx h2 h1
      exact ⟨x', hx', q2, q1⟩
    · exact ⟨x, hx, h1, by have := hg.cell y x hy hx; omega⟩
  obtain ⟨x0, hx0, p1, p2⟩ := hpos
  obtain ⟨r1, hr1, hmax⟩ := max_row P R (by omega)
  have hP1 : 0 < P r1 := by
    have h1 := hmax y hy
    have h2 : 0 < P y := by
      rw [hP]
      have := cnt_less (p := fun x => f y x == 1 && g y x == 0) (q := fun _ => false) (N := C) hx0 (fun _ _ h => by cases h) (by simp [p1, p2]) rfl
      omega
    omega
  obtain ⟨ca, hca, hq⟩ : ∃ i, i < C ∧ (f r1 i == 1 && g r1 i == 0) = true := by
    refine Classical.byContradiction fun hn => ?_
    have : P r1 = 0 := by
      rw [hP]
      exact cnt_none fun i hi => by
        cases hh : (f r1 i == 1 && g r1 i == 0) with
        | false => rfl
        | true => exact absurd ⟨i, hi, hh⟩ hn
    omega
  simp only [Bool.and_eq_true, beq_iff_eq] at hq
  obtain ⟨c2, hc2, u1, u2⟩ := row hf hg hs hr1 hca hq.1 hq.2
  obtain ⟨r2, hr2, v1, v2⟩ := col hg hf (sameF_symm hs) hr1 hc2 u2 u1
  have hrr : r1 ≠ r2 := fun e => by subst e; omega
  obtain ⟨c1, hc1, w1, w2⟩ : ∃ i, i < C ∧ (f r1 i == 1 && g r1 i == 0) = true ∧ (f r2 i == 1 && g r2 i == 0) = false := by
    refine Classical.byContradiction fun hn => ?_
    have h1 := cnt_less (p := fun x => f r2 x == 1 && g r2 x == 0) (q := fun x => f r1 x == 1 && g r1 x == 0) (N := C) hc2 (fun i hi h => by
      cases hh : (f r2 i == 1 && g r2 i == 0) with
      | true => rfl
      | false => exact absurd ⟨i, hi, h, hh⟩ hn) (by simp [v1, v2]) (by simp [u1])
    have h2 := hmax r2 hr2
    rw [hP, hP] at h2
    omega
  simp only [Bool.and_eq_true, beq_iff_eq] at w1
  obtain ⟨w1, w1'⟩ := w1
  have hcc : c1 ≠ c2 := fun e => by subst e; omega
  have ne_one : ∀ {a b : Int}, a ≠ b → ne1 a b = 1 := fun h => by unfold ne1; rw [if_neg h]
  have ne_zero : ∀ {a b : Int}, a = b → ne1 a b = 0 := fun h => by unfold ne1; rw [if_pos h]
  have hfc := hf.cell r2 c1 hr2 hc1; have hgc := hg.cell r2 c1 hr2 hc1
  rcases hfc with hf0 | hf1
  · left
    obtain ⟨a, b, c, d, h4, hab, hcd⟩ := four_any (f := f) hrr hcc hr1 hr2 hc1 hc2 (by omega) (by omega) (by omega)
    refine ⟨a, b, c, d, h4, ?_⟩
    have k1 : ne1 (f r1 c1) (g r1 c1) = 1 := ne_one (by omega)
    have k2 : ne1 (f r1 c2) (g r1 c2) = 1 := ne_one (by omega)
    have k3 : ne1 (f r2 c2) (g r2 c2) = 1 := ne_one (by omega)
    have l1 : ne1 (1 - f r1 c1) (g r1 c1) = 0 := ne_zero (by omega)
    have l2 : ne1 (1 - f r1 c2) (g r1 c2) = 0 := ne_zero (by omega)
    have l3 : ne1 (1 - f r2 c2) (g r2 c2) = 0 := ne_zero (by omega)
    have l4 := ne1_le (1 - f r2 c1) (g r2 c1)
    have := diff_flip f g (a := a) (b := b) (c := c) (d := d) hR hC (by omega) (by omega) (by omega) (by omega) (by omega) (by omega)
    rcases hab with ⟨rfl, rfl⟩ | ⟨rfl, rfl⟩ <;> rcases hcd with ⟨rfl, rfl⟩ | ⟨rfl, rfl⟩ <;> omega
  · right
    have hg1 : g r2 c1 = 1 := by
      rcases hgc with h | h
      · rw [hf1, h] at w2; simp at w2
      · exact h
    obtain ⟨a, b, c, d, h4, hab, hcd⟩ := four_any (f := g) hrr hcc hr1 hr2 hc1 hc2 (by omega) (by omega) (by omega)
    refine ⟨a, b, c, d, h4, ?_⟩
    have k1 : ne1 (g r1 c1) (f r1 c1) = 1 := ne_one (by omega)
    have k2 : ne1 (g r1 c2) (f r1 c2) = 1 := ne_one (by omega)
    have k3 : ne1 (g r2 c2) (f r2 c2) = 1 := ne_one (by omega)
    have l1 : ne1 (1 - g r1 c1) (f r1 c1) = 0 := ne_zero (by omega)
    have l2 : ne1 (1 - g r1 c2) (f r1 c2) = 0 := ne_zero (by omega)
    have l3 : ne1 (1 - g r2 c2) (f r2 c2) = 0 := ne_zero (by omega)
    have l4 := ne1_le (1 - g r2 c1) (f r2 c1)
    have := diff_flip g f (a := a) (b := b) (c := c) (d := d) hR hC (by omega) (by omega) (by omega) (by omega) (by omega) (by omega)
    rcases hab with ⟨rfl, rfl⟩ | ⟨rfl, rfl⟩ <;> rcases hcd with ⟨rfl, rfl⟩ | ⟨rfl, rfl⟩ <;> omega
theorem swF_of {R C : Nat} {f : Nat → Nat → Int} {a b c d : Nat} (h : four R C f a b c d = true) : swF R C f ⟨a, b, c, d⟩ = true := swF_iff.2 ⟨a, b, c, d, rfl, h⟩
/-- Ryser's theorem, with the number of switches. -/
theorem joined {R C : Nat} : ∀ (n : Nat) (f g : Nat → Nat → Int), diff R C f g ≤ n → Img R C f → Img R C g → SameF R C f g → ∃ p, goM (mkM R C f) p = some (mkM R C g) ∧ 2 * p.length ≤ diff R C f g := by
  intro n
  induction n using Nat.strongRecOn with
  | ind n ih =>
    intro f g hn hf hg hs
    by_cases he : ∀ y x, y < R → x < C → f y x = g y x
    · exact ⟨[], by rw [mkM_congr he]; rfl, by simp⟩
    · obtain ⟨y, x, hy, hx, hne⟩ : ∃ y x, y < R ∧ x < C ∧ f y x ≠ g y x := by
        refine Classical.byContradiction fun hc => he fun y x hy hx => ?_
        exact Classical.byContradiction fun h => hc ⟨y, x, hy, hx, h⟩
      rcases nearer hf hg hs hy hx hne with ⟨a, b, c, d, h4, hd⟩ | ⟨a, b, c, d, h4, hd⟩
      · obtain ⟨p, hp, hl⟩ := ih (n - 2) (by omega) (flipN f a b c d) g (by omega) (flipN_img hf a b c d) hg (sameF_trans (sameF_flip h4 hf) hs)
        refine ⟨⟨a, b, c, d⟩ :: p, ?_, by simp only [List.length_cons]; omega⟩
        simp only [goM]
        rw [swB_mk hf, swF_of h4, flipM_mk hf]
        exact hp
      · have e1 := diff_symm R C f (flipN g a b c d)
        have e2 := diff_symm R C f g
        obtain ⟨p, hp, hl⟩ := ih (n - 2) (by omega) f (flipN g a b c d) (by omega) hf (flipN_img hg a b c d) (sameF_trans hs (sameF_symm (sameF_flip h4 hg)))
        refine ⟨p ++ [⟨a, b, c, d⟩], ?_, by simp only [List.length_append, List.length_singleton]; omega⟩
        have h5 := goM_snoc hp (s := ⟨a, b, c, d⟩) (by rw [swB_mk (flipN_img hg a b c d)]; exact swF_of (four_flip h4))
        rw [flipM_mk (flipN_img hg a b c d)] at h5
        have e3 : flipF (flipN g a b c d) ⟨a, b, c, d⟩ = g := flipN_flip g a b c d
        rw [e3] at h5; exact h5
theorem path_far {R C : Nat} : ∀ (p : List Sw) (f g : Nat → Nat → Int), Img R C f → Img R C g → goM (mkM R C f) p = some (mkM R C g) → diff R C f g ≤ 4 * p.length ∧ SameF R C f g
  | [], f, g, hf, hg, h => by
    have e : mkM R C f = mkM R C g := Option.some.inj h
    have ec : ∀ y x, y < R → x < C → f y x = g y x := fun y x hy hx => by rw [← cell_mk R C f hy hx, e, cell_mk R C g hy hx]
    constructor
    · have : diff R C f g = 0 := cnt_none fun i _ => by
        have : imgF R C f i = imgF R C g i := by
          unfold imgF
          split
          · rename_i hh; exact ec _ _ hh.1 hh.2
          · rfl
        rw [this]; simp
      omega
    · exact ⟨fun y hy => cnt_congr fun x hx => by rw [ec y x hy hx], fun x hx => cnt_congr fun y hy => by rw [ec y x hy hx]⟩
  | s :: p, f, g, hf, hg, h => by
    simp only [goM] at h
    rw [swB_mk hf, flipM_mk hf] at h
    split at h
    · rename_i hs
      obtain ⟨a, b, c, d, rfl, h4⟩ := swF_iff.1 hs
      obtain ⟨k1, k2, k3, k4, -⟩ := four_iff.1 h4
      obtain ⟨h5, h6⟩ := path_far p (flipN f a b c d) g (flipN_img hf a b c d) hg h
      have h7 := diff_near f g hf.r2 hf.c2 (a := a) (b := b) (c := c) (d := d) (by omega) (by omega) (by omega) k3 (by omega) k4
      exact ⟨by simp only [List.length_cons]; omega, sameF_trans (sameF_symm (sameF_flip h4 hf)) h6⟩
    · cases h
end Go.Proofs.Ytjnnoabaepmcnaa
/-
  Slices whose elements have several cells: what a call owns, a literal of one element, append.
-/
namespace Go.Proofs.Ytjnnoabaepmcnaa
open Go.RowKit

theorem ownA_below {w w' : World} {base e n z : Nat} {v : Value} {xs : List Value} (h : w.ownsRow base e z v n xs) (hb : Below w.heap.size w w') : w'.ownsRow base e z v n xs := by
  refine ⟨h.1, ?_⟩
  rcases h.2 with hn | ⟨g, cap, cur, hv, hbg, hg, r⟩
  · exact .inl hn
  · exact .inr ⟨g, cap, cur, hv, hbg, by rw [hb.block g (Array.getElem?_eq_some_iff.1 hg).1]; exact hg, r⟩
theorem ownA_base {w : World} {base base' e n z : Nat} {v : Value} {xs : List Value} (h : w.ownsRow base e z v n xs) (hb : base' ≤ base) : w.ownsRow base' e z v n xs := by
  refine ⟨h.1, ?_⟩
  rcases h.2 with hn | ⟨g, cap, cur, hv, hbg, hg, r⟩
  · exact .inl hn
  · exact .inr ⟨g, cap, cur, hv, by omega, hg, r⟩
theorem ownA_slice {w : World} {base e n z : Nat} {v : Value} {xs : List Value} (h : w.ownsRow base e z v n xs) : ∃ a cap, v = .slice a n cap := by
  rcases h.2 with ⟨rfl, rfl⟩ | ⟨g, cap, cur, rfl, _⟩
  · exact ⟨_, _, rfl⟩
  · exact ⟨_, _, rfl⟩
theorem ownA_some {w : World} {base e n z : Nat} {v : Value} {xs : List Value} (h : w.ownsRow base e z v n xs) (hn : 0 < n) :
    ∃ g cap, v = .slice (some ⟨g, 0, none⟩) n cap ∧ base ≤ g ∧ g < w.heap.size ∧ n ≤ cap ∧ cap ≤ maxLen ∧ (∀ j, j < n * z → w.cell? ⟨g, j, none⟩ = xs[j]?) ∧ (∀ j, w.frozen? ⟨g, j, none⟩ = false) := by
  rcases h.2 with ⟨_, h0⟩ | ⟨g, cap, cur, rfl, hbg, hg, hc, hm, _⟩
  · omega
  · exact ⟨g, cap, rfl, hbg, (Array.getElem?_eq_some_iff.1 hg).1, hc, hm, fun j hj => h.cellAt j hj, fun j => h.frozenAt j⟩
theorem ownA_types {w : World} {b1 b2 e1 e2 n1 n2 z1 z2 : Nat} {v1 v2 : Value} {xs ys : List Value} (h1 : w.ownsRow b1 e1 z1 v1 n1 xs) (h2 : w.ownsRow b2 e2 z2 v2 n2 ys) (hne : e1 ≠ e2) : v1.ownBlock = none ∨ v1.ownBlock ≠ v2.ownBlock := by
  rcases h1.2 with ⟨rfl, _⟩ | ⟨g1, c1, cur1, rfl, _, hg1, _⟩
  · exact .inl rfl
  · rcases h2.2 with ⟨rfl, _⟩ | ⟨g2, c2, cur2, rfl, _, hg2, _⟩
    · exact .inr (by simp [Value.ownBlock])
    · refine .inr fun e => ?_
      simp only [Value.ownBlock, Option.some.injEq] at e
      subst e
      rw [hg1] at hg2
      simp only [Option.some.injEq, Obj.cells.injEq] at hg2
      exact hne hg2.2.1
theorem ownA_grown {w w' : World} {base e n z : Nat} {v : Value} {xs : List Value} {row : Option Nat} (h : w.ownsRow base e z v n xs) (hg : w.grownBy w' row) (hr : ∀ k, row = some k → v.ownBlock ≠ some k) : w'.ownsRow base e z v n xs := by
  refine h.kept hg ?_
  cases hv : v.ownBlock with
  | none => exact .inl rfl
  | some k =>
    right
    cases row with
    | none => simp
    | some q => intro e; cases e; exact hr _ rfl hv

/-- '[]T{x}', x of some cells. -/
theorem wpList_buildOneA {P : Program} {ops : Array Oper} {rest : List Oper} {o : Oper} {a : Act} {Q : Exit → Act → World → Prop} {W : World} {T E : TypeId} {z bytes : Nat} (cs : Array Value) (zv : Value) (d : Tmp) (_hd : o.dst = some d) (hgd : o.guard = none) (x : Operand) (ho : o.op = .buildSlice T 1 #[(0, x)])
    (hx : a.eval x = .agg cs) (ht : P.underlying T = some (.slice E)) (hinfo : (P.info? E).map (fun i => (i.zero, i.size, i.bytes)) = some (some zv, z, bytes)) (hz : 0 < z) (hz2 : z ≤ 1000) (hcs : cs.size = z)
    (h : wpList P ops Q rest (a.put o.dst (.slice (some ⟨W.heap.size, 0, none⟩) 1 1)) (W.alloc (.cells cs E))) : wpList P ops Q (o :: rest) a W := by
  obtain ⟨i0, hi, hz0, hz1, -⟩ := info_parts hinfo
  refine wpList_buildSlice hgd T E 1 _ ho cs i0 zv ht hi hz0 (by rw [hz1]; omega) (by rw [hz1]; omega) ?_ h
  rw [hz1]
  have := Go.Great.fill_whole (s := z) hz [.agg cs] ((Array.range (1 * z)).map (zv.cells[· % zv.cells.size]!)) (by simpa [Value.cells] using hcs) (by simp)
  simpa [hx, Value.cells] using this

/-- 'append(v, x)', x of some cells, laid just before. -/
theorem wpList_pushA {P : Program} {ops : Array Oper} {rest : List Oper} {o : Oper} {a : Act} {Q : Exit → Act → World → Prop} {W : World} {base n bytes z : Nat} {E T : TypeId} {v : Value} {xs : List Value}
    (hown : W.ownsRow base E z v n xs) (cs : Array Value) (zv : Value) (hgd : o.guard = none) (s x : Operand)
    (ho : o.op = .call { callee := .builtin .append, args := #[s, x], argTypes := #[T, T] })
    (ht : P.underlying T = some (.slice E)) (hinfo : (P.info? E).map (fun i => (i.zero, i.size, i.bytes)) = some (some zv, z, bytes)) (hzc : zv.cells.size = z) (hz : 0 < z) (hby : bytes ≤ 1000)
    (hs : a.eval s = v) (hx : a.eval x = .slice (some ⟨W.heap.size, 0, none⟩) 1 1) (hcs : cs.size = z) (hone : cs.all (·.oneCell') = true) (hn : n < 4000000) (hbase : base ≤ W.heap.size)
    (h : ∀ g cap w', w'.ownsRow base E z (.slice (some ⟨g, 0, none⟩) (n + 1) cap) (n + 1) (xs ++ cs.toList) → Below base W w' → W.grownBy w' v.ownBlock → (v.ownBlock = some g ∨ W.heap.size ≤ g) → g < w'.heap.size → wpList P ops Q rest (a.put o.dst (.slice (some ⟨g, 0, none⟩) (n + 1) cap)) w') :
    wpList P ops Q (o :: rest) a (W.alloc (.cells cs E)) := by
  obtain ⟨i0, hi, hz0, hz1, hz2⟩ := info_parts hinfo
  refine wpList_append_lies _ hgd s x T ho base E i0 zv z bytes ht hi hz0 hz1 hz2 hzc hz v n xs hs (hown.alloc _) ⟨W.heap.size, 0, none⟩ 1 1 cs.toList hx (by simp [hcs]) ?_ ?_
    (by decide) (by unfold maxLen; omega) (by have : (n + 1) * bytes ≤ 4000000 * 1000 := Nat.mul_le_mul (by omega) hby; omega) (by simp; omega) _ rfl ?_
  · intro j u hj
    rw [addr_add, Nat.zero_add, cell_of_row _ W.heap.size j cs E (0, 0) (heap_alloc_new W _)]
    simpa using hj
  · intro u hu
    exact (Array.all_eq_true_iff_forall_mem.1 hone) u (by simpa using hu)
  intro g cap w' hown' hg hat hlt'
  have hlt := hown.lt
  have hal : Below base W (W.alloc (.cells cs E)) := (Below.refl _ _).alloc hbase _
  refine h g cap w' hown' (hal.grown hg (by simp; omega) (fun k hk => (hlt k hk).1)) ?_ ?_ hlt'
  · exact grown_trans (World.grownBy_alloc W _ _) hg
  · rcases hat with h1 | h1
    · exact .inl h1
    · right; rw [h1, World.size_alloc]; omega
end Go.Proofs.Ytjnnoabaepmcnaa
/-
  Lists of directions in memory.
-/
namespace Go.Proofs.Ytjnnoabaepmcnaa
open Go.RowKit

def drV (d : Int × Int) : Value := .agg #[.int .i64 d.1, .int .i64 d.2]
def drA (d : Int × Int) : Array Value := #[.int .i64 d.1, .int .i64 d.2]
def cellsD (l : List (Int × Int)) : List Value := l.flatMap fun d => [.int .i64 d.1, .int .i64 d.2]
theorem cellsD_len (l : List (Int × Int)) : (cellsD l).length = l.length * 2 := by
  induction l with
  | nil => rfl
  | cons s l ih =>
    simp only [cellsD, List.flatMap_cons, List.length_append, List.length_cons, List.length_nil] at ih ⊢
    omega
theorem cellsD_snoc (l : List (Int × Int)) (s : Int × Int) : cellsD (l ++ [s]) = cellsD l ++ (drA s).toList := by
  simp [cellsD, drA]
theorem cellsD_at : ∀ (l : List (Int × Int)) (i : Nat) (h : i < l.length), (cellsD l)[i * 2]? = some (.int .i64 l[i].1) ∧ (cellsD l)[i * 2 + 1]? = some (.int .i64 l[i].2)
  | [], i, h => absurd h (Nat.not_lt_zero _)
  | s :: l, 0, _ => ⟨rfl, rfl⟩
  | s :: l, i + 1, h => by
    have := cellsD_at l i (by simpa using h)
    have e : cellsD (s :: l) = [.int .i64 s.1, .int .i64 s.2] ++ cellsD l := by simp [cellsD]
    rw [e]
    simp only [List.getElem_cons_succ]
    refine ⟨?_, ?_⟩
    · rw [List.getElem?_append_right (by simp; omega)]
      simpa [show (i + 1) * 2 - 2 = i * 2 by omega] using this.1
    · rw [List.getElem?_append_right (by simp; omega)]
      simpa [show (i + 1) * 2 + 1 - 2 = i * 2 + 1 by omega] using this.2
/-- The two cells of a direction. -/
def DrC (w : World) (g k : Nat) (s : Int × Int) : Prop := w.cell? ⟨g, k, none⟩ = some (.int .i64 s.1) ∧ w.cell? ⟨g, k + 1, none⟩ = some (.int .i64 s.2)
theorem drC_below {w w' : World} {g k : Nat} {s : Int × Int} (h : DrC w g k s) (hb : Below w.heap.size w w') (hg : g < w.heap.size) : DrC w' g k s :=
  ⟨below_cell hb hg h.1, below_cell hb hg h.2⟩
theorem drC_at {w : World} {g : Nat} {dx dy : Int} (h : DirAt w g dx dy) : DrC w g 0 (dx, dy) := by
  refine ⟨?_, ?_⟩
  · rw [cell_of_row w g 0 _ _ _ h]; rfl
  · rw [cell_of_row w g 1 _ _ _ h]; rfl
theorem wpList_loadDrC {ops : Array Oper} {rest : List Oper} {o : Oper} {a : Act} {Q : Exit → Act → World → Prop} {W : World} {g k : Nat} {s : Int × Int} (hb : DrC W g k s)
    (d : Tmp) (_hd : o.dst = some d) (hgd : o.guard = none) (x : Operand) (ho : o.op = .load 29 x) (hx : a.eval x = .pointer (some ⟨g, k, none⟩))
    (h : wpList Try.prog ops Q rest (a.put o.dst (drV s)) W) : wpList Try.prog ops Q (o :: rest) a W := by
  obtain ⟨h0, h1⟩ := hb
  refine wpList_plain hgd fun K hK => ?_
  have : (execOp a.eval o).run Try.prog W = .ok (.value (drV s)) W := by
    unfold execOp
    simp only [ho, hx]
    go_simp
    rfl
  unfold Oper.wp
  rw [this]
  exact hK _ _ h
/-- The slice v reads as the switches l. -/
def InDrs (w : World) (v : Value) (l : List (Int × Int)) : Prop :=
  ∃ a c, v = .slice a l.length c ∧ l.length ≤ maxLen ∧ (l.length = 0 ∨ ∃ g o, a = some ⟨g, o, none⟩ ∧ g < w.heap.size ∧ ∀ i, (h : i < l.length) → DrC w g (o + i * 2) l[i])
theorem inDrs_below {w w' : World} {v : Value} {l : List (Int × Int)} (h : InDrs w v l) (hb : Below w.heap.size w w') : InDrs w' v l := by
  obtain ⟨a, c, hv, hm, hp⟩ := h
  refine ⟨a, c, hv, hm, ?_⟩
  rcases hp with h0 | ⟨g, o, ha, hg, hc⟩
  · exact .inl h0
  · exact .inr ⟨g, o, ha, Nat.lt_of_lt_of_le hg hb.size, fun i hi => drC_below (hc i hi) hb hg⟩
theorem inDrs_nil (w : World) : InDrs w (.slice none 0 0) [] := ⟨none, 0, rfl, Nat.zero_le _, .inl rfl⟩
/-- The call owns the switches. -/
def OwnDrs (w : World) (lo : Nat) (v : Value) (l : List (Int × Int)) : Prop := w.ownsRow lo 29 2 v l.length (cellsD l)
theorem ownDrs_below {w w' : World} {lo : Nat} {v : Value} {l : List (Int × Int)} (h : OwnDrs w lo v l) (hb : Below w.heap.size w w') : OwnDrs w' lo v l := ownA_below h hb
theorem ownDrs_base {w : World} {lo lo' : Nat} {v : Value} {l : List (Int × Int)} (h : OwnDrs w lo v l) (hb : lo' ≤ lo) : OwnDrs w lo' v l := ownA_base h hb
theorem ownDrs_nil (w : World) (lo : Nat) : OwnDrs w lo (.slice none 0 0) [] := World.ownsRow_nil _ _ _ _
theorem ownDrs_cells {w : World} {lo g n c : Nat} {l : List (Int × Int)} (h : OwnDrs w lo (.slice (some ⟨g, 0, none⟩) n c) l) (i : Nat) (hi : i < l.length) : DrC w g (i * 2) l[i] := by
  have hn : n = l.length := by
    rcases h.2 with ⟨e, _⟩ | ⟨g', cap, cur, e, _⟩
    · cases e
    · cases e; rfl
  subst hn
  obtain ⟨h0, h1⟩ := cellsD_at l i hi
  exact ⟨by rw [World.ownsRow.cellAt h _ (by omega)]; exact h0, by rw [World.ownsRow.cellAt h _ (by omega)]; exact h1⟩
theorem inDrs_own {w : World} {lo : Nat} {v : Value} {l : List (Int × Int)} (h : OwnDrs w lo v l) : InDrs w v l := by
  have h' := h
  rcases h.2 with ⟨rfl, h0⟩ | ⟨g, cap, cur, rfl, hbg, hg, hc, hm, _⟩
  · exact ⟨none, 0, by rw [h0], by omega, .inl h0⟩
  · exact ⟨_, _, rfl, by omega, .inr ⟨g, 0, rfl, (Array.getElem?_eq_some_iff.1 hg).1, fun i hi => by rw [Nat.zero_add]; exact ownDrs_cells h' i hi⟩⟩
theorem Try.infoDr : (Try.prog.info? 29).map (fun i => (i.zero, i.size, i.bytes)) = some (some (.agg #[.int .i64 0, .int .i64 0]), 2, 16) := by kernel_rfl
/-- The call answers switches of its own. -/
def DrsRes (l : List (Int × Int)) (w : World) (e : Ending) (w' : World) : Prop := ∃ v, e = .returned v ∧ OwnDrs w' w.heap.size v l ∧ Below w.heap.size w w'
end Go.Proofs.Ytjnnoabaepmcnaa
/-
  The exact laws' helpers at directions: toDirectionS, szDirectionS, markDirectionS, heldDirectionS.
-/
namespace Go.Proofs.Ytjnnoabaepmcnaa
open Go.RowKit

def set2 (xs : List Value) (k : Nat) (s : Int × Int) : List Value := (xs.set k (.int .i64 s.1)).set (k + 1) (.int .i64 s.2)
theorem set2_len (xs : List Value) (k : Nat) (s : Int × Int) : (set2 xs k s).length = xs.length := by simp [set2]
theorem set2_fill {l : List (Int × Int)} {xs : List Value} {k : Nat} (h : xs.length = l.length * 2) (hk : k < l.length) : set2 (cellsD (l.take k) ++ xs.drop (k * 2)) (k * 2) l[k] = cellsD (l.take (k + 1)) ++ xs.drop ((k + 1) * 2) := by
  have hl : (cellsD (l.take k)).length = k * 2 := by rw [cellsD_len, List.length_take]; omega
  obtain ⟨a, b, r, hr⟩ : ∃ a b r, xs.drop (k * 2) = a :: b :: r := by
    have : 2 ≤ (xs.drop (k * 2)).length := by rw [List.length_drop]; omega
    match hx : xs.drop (k * 2), this with
    | a :: b :: r, _ => exact ⟨a, b, r, rfl⟩
  have hd : xs.drop ((k + 1) * 2) = r := by
    rw [show (k + 1) * 2 = k * 2 + 2 by omega, ← List.drop_drop, hr]; rfl
  rw [hd, hr, List.take_succ_eq_append_getElem hk, cellsD_snoc]
  unfold set2
  rw [List.set_append_right _ _ (by omega), List.set_append_right _ _ (by omega), hl]
  rw [show k * 2 - k * 2 = 0 by omega, show k * 2 + 1 - k * 2 = 1 by omega]
  simp [drA]
/-- A switch is stored in a slice of the call's own. -/
theorem exec_storeDrOwn {ρ : Operand → Value} {o : Oper} {w : World} {x y : Operand} {base e g n c i : Nat} {xs : List Value} {s : Int × Int} (ho : o.op = .store 29 x y) (hx : ρ x = .pointer (some ⟨g, i * 2, none⟩)) (hy : ρ y = drV s)
    (h : w.ownsRow base e 2 (.slice (some ⟨g, 0, none⟩) n c) n xs) (hi : i < n) : ∃ w', (execOp ρ o).run Try.prog w = .ok .skip w' ∧ w'.ownsRow base e 2 (.slice (some ⟨g, 0, none⟩) n c) n (set2 xs (i * 2) s) ∧ w.grownBy w' (some g) := by
  have hl := h.1
  have hc : ∀ j, j < n * 2 → ∃ u, w.cell? ⟨g, j, none⟩ = some u := fun j hj => ⟨xs[j], by rw [h.cellAt j hj, List.getElem?_eq_getElem (by omega)]⟩
  obtain ⟨u0, h0⟩ := hc (i * 2) (by omega); obtain ⟨u1, h1⟩ := hc (i * 2 + 1) (by omega)
  have f0 := h.frozenAt (i * 2); have f1 := h.frozenAt (i * 2 + 1)
  obtain ⟨a1, b1⟩ := h.stored (i * 2) (.int .i64 s.1)
  obtain ⟨a2, b2⟩ := a1.stored (i * 2 + 1) (.int .i64 s.2)
  refine ⟨_, ?_, a2, grown_trans b1 b2⟩
  unfold execOp
  simp only [ho, hx, hy, drV]
  go_simp
theorem wpList_storeDrOwn {ops : Array Oper} {rest : List Oper} {o : Oper} {a : Act} {Q : Exit → Act → World → Prop} {W : World} {base e g n c i : Nat} {xs : List Value} {s : Int × Int} (h : W.ownsRow base e 2 (.slice (some ⟨g, 0, none⟩) n c) n xs) (hi : i < n)
    (hgd : o.guard = none) (x y : Operand) (ho : o.op = .store 29 x y) (hx : a.eval x = .pointer (some ⟨g, i * 2, none⟩)) (hy : a.eval y = drV s)
    (hK : ∀ w', w'.ownsRow base e 2 (.slice (some ⟨g, 0, none⟩) n c) n (set2 xs (i * 2) s) → W.grownBy w' (some g) → wpList Try.prog ops Q rest (a.put o.dst undef) w') : wpList Try.prog ops Q (o :: rest) a W := by
  refine wpList_plain hgd fun K hk => ?_
  obtain ⟨w', h1, h2, h3⟩ := exec_storeDrOwn (ρ := a.eval) ho hx hy h hi
  unfold Oper.wp
  rw [h1]
  exact hk _ _ (hK w' h2 h3)

def SizeD (n left : Nat) (w : World) (e : Ending) (w' : World) : Prop := ∃ r : Int, e = .returned (.int .i64 r) ∧ ((r = -1) ∨ (n ≤ left ∧ r = (left - n : Nat))) ∧ w = w'
/-- The cells are marked one after the other. -/
theorem mark_cellD (q j m : Nat) (xs : List Value) (hl : xs.length = m) (hj : j < m) : (ints (markR j q) ++ xs.drop j).set j (.int .i64 ((q + j : Nat) : Int)) = ints (markR (j + 1) q) ++ xs.drop (j + 1) := markR_set m q j xs hl hj
end Go.Proofs.Ytjnnoabaepmcnaa
/-
  eqDirection, eqDirectionS of the exact laws, at the same switches.
-/
namespace Go.Proofs.Ytjnnoabaepmcnaa
open Go.RowKit

theorem wpList_boxDr {P : Program} {ops : Array Oper} {rest : List Oper} {o : Oper} {a : Act} {Q : Exit → Act → World → Prop} {W : World} (s : Int × Int)
    (d : Tmp) (_hd : o.dst = some d) (hgd : o.guard = none) (x : Operand) (ho : o.op = .box 29 x) (hx : a.eval x = drV s)
    (h : ∀ w', DirAt w' W.heap.size s.1 s.2 → Below W.heap.size W w' → w'.heap.size = W.heap.size + 1 → wpList P ops Q rest (a.put o.dst (.pointer (some ⟨W.heap.size, 0, none⟩))) w') : wpList P ops Q (o :: rest) a W := by
  refine wpList_plain hgd fun K hK => ?_
  unfold Oper.wp execOp
  simp only [ho, hx, Instr.box, Sem.run_bind]
  simp [newVar, newRow, Value.cells, drV]
  exact hK _ _ (h _ (heap_alloc_new W _) ((Below.refl _ _).alloc (Nat.le_refl _) _) (by simp))
theorem exec_loadDrC {ρ : Operand → Value} {o : Oper} {w : World} {x : Operand} {g k : Nat} {s : Int × Int} (ho : o.op = .load 29 x) (hx : ρ x = .pointer (some ⟨g, k, none⟩)) (hb : DrC w g k s) : (execOp ρ o).run Try.prog w = .ok (.value (drV s)) w := by
  obtain ⟨h0, h1⟩ := hb
  unfold execOp
  simp only [ho, hx]
  go_simp
  rfl
theorem exec_indexDr {ρ : Operand → Value} {o : Oper} {w : World} {x i : Operand} {g b n c k : Nat} (ho : o.op = .indexAddr 26 x i) (hx : ρ x = .slice (some ⟨g, b, none⟩) n c) (hi : ρ i = .int .i64 k) (hk : k < n) : (execOp ρ o).run Try.prog w = .ok (.value (.pointer (some ⟨g, b + k * 2, none⟩))) w := by
  have hkI : (k : Int) < n := by omega
  unfold execOp
  simp only [ho, hx, hi]
  go_simp

theorem exec_notD {P : Program} {ρ : Operand → Value} {o : Oper} {w : World} {x : Operand} {T : TypeId} {b : Bool} (ho : o.op = .unOp .not T x) (hx : ρ x = .bool b) : (execOp ρ o).run P w = .ok (.value (.bool !b)) w := by
  unfold execOp
  simp only [ho, hx]
  rfl
end Go.Proofs.Ytjnnoabaepmcnaa
/-
  Directiones that a call owns, from one block up to another; what lies within.
-/
namespace Go.Proofs.Ytjnnoabaepmcnaa
open Go.RowKit

theorem ownAD_within {lo hi base e n z : Nat} {w w' : World} {v : Value} {xs : List Value} (h : w.ownsRow base e z v n xs) (hw : Within lo hi w w') (hk : ∀ k, v.ownBlock = some k → k < lo ∨ hi ≤ k) : w'.ownsRow base e z v n xs := by
  refine ⟨h.1, ?_⟩
  rcases h.2 with hn | ⟨g, cap, cur, rfl, hbg, hg, r⟩
  · exact .inl hn
  · exact .inr ⟨g, cap, cur, rfl, hbg, by rw [hw.block g (Array.getElem?_eq_some_iff.1 hg).1 (hk g rfl)]; exact hg, r⟩
/-- Directiones of the call's own, in a block from lo up to hi. -/
def OwnD2 (w : World) (lo hi : Nat) (v : Value) (l : List (Int × Int)) : Prop := OwnDrs w lo v l ∧ ∀ k, v.ownBlock = some k → k < hi
theorem ownD2_of {w : World} {lo : Nat} {v : Value} {l : List (Int × Int)} (h : OwnDrs w lo v l) : OwnD2 w lo w.heap.size v l := ⟨h, fun k e => (World.ownsRow.lt h k e).2⟩
theorem ownD2_below {w w' : World} {lo hi : Nat} {v : Value} {l : List (Int × Int)} (h : OwnD2 w lo hi v l) (hb : Below w.heap.size w w') : OwnD2 w' lo hi v l := ⟨ownDrs_below h.1 hb, h.2⟩
theorem ownD2_within {w w' : World} {lo hi lo' hi' : Nat} {v : Value} {l : List (Int × Int)} (h : OwnD2 w lo hi v l) (hw : Within lo' hi' w w') (ha : hi ≤ lo' ∨ hi' ≤ lo) : OwnD2 w' lo hi v l :=
  ⟨ownAD_within h.1 hw fun k e => by have := h.2 k e; have := (World.ownsRow.lt h.1 k e).1; omega, h.2⟩
theorem within_ownD {w w' : World} {lo hi : Nat} {v : Value} {l : List (Int × Int)} (h : OwnD2 w lo hi v l) (hg : w.grownBy w' v.ownBlock) : Within lo hi w w' := within_grown hg fun k e => ⟨(World.ownsRow.lt h.1 k e).1, h.2 k e⟩
end Go.Proofs.Ytjnnoabaepmcnaa
/-
  Lists of directions: whether they are valid and different, of the model and of the program.
-/
namespace Go.Proofs.Ytjnnoabaepmcnaa
open Go.RowKit
set_option linter.unusedVariables false
set_option maxRecDepth 100000

/-- The slice v reads as the directions l, within its capacity. -/
def DrsC (w : World) (v : Value) (l : List (Int × Int)) : Prop :=
  ∃ a c, v = .slice a l.length c ∧ l.length ≤ c ∧ c ≤ maxLen ∧ (l.length = 0 ∨ ∃ g o, a = some ⟨g, o, none⟩ ∧ g < w.heap.size ∧ ∀ i, (h : i < l.length) → DrC w g (o + i * 2) l[i])
theorem drsC_below {w w' : World} {v : Value} {l : List (Int × Int)} (h : DrsC w v l) (hb : Below w.heap.size w w') : DrsC w' v l := by
  obtain ⟨a, c, hv, hl, hm, hp⟩ := h
  refine ⟨a, c, hv, hl, hm, ?_⟩
  rcases hp with h0 | ⟨g, o, ha, hg, hc⟩
  · exact .inl h0
  · exact .inr ⟨g, o, ha, Nat.lt_of_lt_of_le hg hb.size, fun i hi => drC_below (hc i hi) hb hg⟩
theorem drsC_in {w : World} {v : Value} {l : List (Int × Int)} (h : DrsC w v l) : InDrs w v l := by
  obtain ⟨a, c, hv, hl, hm, hp⟩ := h
  exact ⟨a, c, hv, by omega, hp⟩
theorem drsC_own {w : World} {lo : Nat} {v : Value} {l : List (Int × Int)} (h : OwnDrs w lo v l) : DrsC w v l := by
  have h' := h
  rcases h.2 with ⟨rfl, h0⟩ | ⟨g, cap, cur, rfl, hbg, hg, hc, hm, _⟩
  · exact ⟨none, 0, by rw [h0], by omega, by unfold maxLen; omega, .inl h0⟩
  · exact ⟨_, _, rfl, hc, hm, .inr ⟨g, 0, rfl, (Array.getElem?_eq_some_iff.1 hg).1, fun i hi => by rw [Nat.zero_add]; exact ownDrs_cells h' i hi⟩⟩

theorem getD_at {l : List (Int × Int)} {i : Nat} (hi : i < l.length) : l.getD i (0, 0) = l[i] := by simp [hi]
/-- Direction number i is valid and none of those before it. -/
def freshD (l : List (Int × Int)) (i : Nat) : Bool := dirOk (l.getD i (0, 0)).1 (l.getD i (0, 0)).2 && !((l.take i).contains (l.getD i (0, 0)))
/-- From 1 to 4 directions, all valid and different. -/
def dirsB (l : List (Int × Int)) : Bool := decide (1 ≤ l.length ∧ l.length ≤ 4) && (List.range l.length).all (freshD l)
theorem dirsB_yes {l : List (Int × Int)} (h : ∀ i, i < l.length → freshD l i = true) (h1 : 1 ≤ l.length ∧ l.length ≤ 4) : dirsB l = true := by
  rw [dirsB, decide_eq_true h1, Bool.true_and, List.all_eq_true]
  intro i hi
  exact h i (List.mem_range.1 hi)
theorem dirsB_no {l : List (Int × Int)} {i : Nat} (hi : i < l.length) (h : freshD l i = false) : dirsB l = false := by
  rw [dirsB, Bool.and_eq_false_iff]
  right
  rw [List.all_eq_false]
  exact ⟨i, List.mem_range.2 hi, by simp [h]⟩
theorem dirsB_len {l : List (Int × Int)} (h : dirsB l = true) : 1 ≤ l.length ∧ l.length ≤ 4 := by
  unfold dirsB at h
  rw [Bool.and_eq_true] at h
  exact of_decide_eq_true h.1
theorem dirsB_at {l : List (Int × Int)} (h : dirsB l = true) {i : Nat} (hi : i < l.length) : dirOk l[i].1 l[i].2 = true ∧ l[i] ∉ l.take i := by
  unfold dirsB at h
  rw [Bool.and_eq_true, List.all_eq_true] at h
  have := h.2 i (List.mem_range.2 hi)
  simp only [freshD, Bool.and_eq_true] at this
  rw [getD_at hi] at this
  refine ⟨this.1, fun hm => ?_⟩
  have := this.2
  rw [List.contains_iff_mem.2 hm] at this
  cases this
theorem freshD_at {l : List (Int × Int)} {i : Nat} (hi : i < l.length) : freshD l i = (dirOk l[i].1 l[i].2 && !((l.take i).contains l[i])) := by
  rw [freshD, getD_at hi]
theorem drV_eq (a b : Int × Int) : drV a = drV b ↔ a = b := by
  constructor
  · intro h
    obtain ⟨a1, a2⟩ := a
    obtain ⟨b1, b2⟩ := b
    simp only [drV, Value.agg.injEq, Array.mk.injEq, List.cons.injEq, Value.int.injEq, true_and, and_true] at h
    rw [h.1, h.2]
  · rintro rfl; rfl
theorem Try.cellsDr : Try.prog.cellsOf 29 = 2 := by kernel_rfl
theorem Try.cellsIDr : Try.prog.cellsOf 3 = 1 := by kernel_rfl
theorem Try.keyTyDr : Try.prog.keyType 29 = true := by kernel_rfl
def wfD (s : Int × Int) : Prop := (Lit.int .i64 s.1).wf = true ∧ (Lit.int .i64 s.2).wf = true
theorem wfD_of {s : Int × Int} (h : dirOk s.1 s.2 = true) : wfD s := by
  have hn := near_of h
  exact ⟨WalkArith.wf_i64 (by have := hn.x1; have := hn.x2; omega), WalkArith.wf_i64 (by have := hn.y1; have := hn.y2; omega)⟩
theorem intLitsD_mk (d : Nat) (x : Int) (h : (Lit.int .i64 x).wf = true) : Try.prog.keyLits (d + 1) 3 [.int .i64 x] = some [.int .i64 x] := by
  unfold Program.keyLits
  rw [Try.underlying3]
  simp only
  rw [if_pos ⟨trivial, h⟩]
theorem drLits_mk (d : Nat) (s : Int × Int) (h : wfD s) : Try.prog.keyLits (d + 2) 29 (drA s).toList = some [.int .i64 s.1, .int .i64 s.2] := by
  obtain ⟨h1, h2⟩ := h
  unfold Program.keyLits
  rw [Try.underlying29]
  simp only [drA]
  refine (if_pos ⟨by rw [Try.cellsDr]; rfl, by decide +kernel⟩).trans ?_
  simp only [Try.cellsIDr, List.mapM_cons, List.mapM_nil, List.drop_zero, List.take_succ_cons, List.take_zero, List.drop_succ_cons, bind, Option.bind, pure, Option.map, intLitsD_mk d _ h1, intLitsD_mk d _ h2]
  rfl
theorem run_eqDr {s u : Int × Int} (hs : wfD s) (hu : wfD u) (b : Bool) (hb : b = true ↔ s = u) (w : World) : (binOp .eql 29 (drV s) (drV u)).run Try.prog w = .ok (.bool b) w := by
  have hm : Try.prog.types.size + 1 ≤ 10000 := of_decide_eq_true (by kernel_rfl)
  have hf : ∀ s : Int × Int, (drV s).formed Try.prog 29 = true := fun s => by simp [drV, Value.formed, Try.underlying29, Try.cellsDr]
  obtain ⟨r, hr, hiff⟩ := run_equalIn_deep (10000 - (Try.prog.types.size + 1)) (Try.prog.types.size + 1) 29 Try.keyTyDr w 2 2 (drV s) (drV u) _ _ (hf s) (hf u) (drLits_mk 0 s hs) (drLits_mk 0 u hu)
  rw [show 10000 - (Try.prog.types.size + 1) + (Try.prog.types.size + 1) = 10000 by omega] at hr
  have he : b = r := by
    rw [Bool.eq_iff_iff, hb]
    have : r = true ↔ s = u := hiff.trans ⟨fun e => by obtain ⟨a1, a2⟩ := s; obtain ⟨b1, b2⟩ := u; simpa using e, fun e => by rw [e]⟩
    exact this.symm
  rw [he]
  unfold drV at hr ⊢
  simp only [binOp]
  simp [Op.equal, Op.maxDepth, hr]
theorem eqGuard_dr (s u : Int × Int) (x y : Operand) (w : World) : (eqGuard .eql 29 x y (drV s) (drV u)).run Try.prog w = .ok () w := by
  simp [eqGuard, drV, Result.andThen]

set_option maxRecDepth 100000 in
set_option maxHeartbeats 2000000 in
theorem indexDr_any (v : Value) (l : List (Int × Int)) (d : Int × Int) (w : World) (hin : DrsC w v l) (hl : ∀ e ∈ l, wfD e) (hd : wfD d) (hn : l.length ≤ 4) :
    Calls Try.prog 77 #[v, drV d] w fun e w' => (∃ k : Int, e = .returned (.int .i64 k) ∧ decide (k ≥ 0) = l.contains d) ∧ Below w.heap.size w w' := by
  obtain ⟨a, c, rfl, -, hm, hp⟩ := hin
  have HP := hide hp; have HL := hide hl; have HD := hide hd
  obtain ⟨n, hnn⟩ : ∃ n, n = l.length := ⟨_, rfl⟩
  have HN := hide hnn
  rw [← hnn] at hn ⊢
  clear hnn hp hl hd hm
  go_enter Try.func77, Try.ntmps77
  go_wp2_with ((with_reducible refine wpList_boxDr d 3 rfl rfl (.tmp 1) rfl rfl ?_); intro w1 h1 b1 s1; have HD1 := hide h1; have HB1 := hide b1; clear h1 b1 s1)
  go_loopw [8] (fun i w' => ∃ k : Nat, k ≤ n ∧ i = .int .i64 k ∧ Below w1.heap.size w1 w' ∧ ∀ t, (h : t < l.length) → t < k → l[t] ≠ d) (fun i _ => n - (intOf i).toNat)
  case atStart => exact ⟨0, Nat.zero_le _, rfl, Below.refl _ _, fun t _ h => absurd h (Nat.not_lt_zero _)⟩
  case round =>
    obtain ⟨k, hk, rfl, hb, hall⟩ := hrel
    have HB := hide hb; have HA := hide hall
    clear hb hall
    by_cases hlt : k < n
    · have hltI : (k : Int) < n := by omega
      have hkl : k < l.length := by rw [← HN.out]; exact hlt
      obtain ⟨g, o, rfl, hg, hcl⟩ := HP.out.resolve_left (by rw [← HN.out]; omega)
      have hq := drC_below (hcl k hkl) (HB1.out.trans (HB.out.mono HB1.out.size)) hg
      have hp1 := drC_below (drC_at HD1.out) HB.out (Array.getElem?_eq_some_iff.1 HD1.out).1
      obtain ⟨u, hu⟩ : ∃ u, u = l[k] := ⟨_, rfl⟩
      have HU := hide hu
      have HWU : Hid (wfD u) := hide (by rw [hu]; exact HL.out _ (List.getElem_mem hkl))
      rw [← hu] at hq
      obtain ⟨c0, c1⟩ := hp1
      obtain ⟨e0, e1⟩ := hq
      clear hu hcl
      by_cases he : u = d
      · have heq : ∀ w, (binOp .eql 29 (.agg #[.int .i64 d.1, .int .i64 d.2]) (.agg #[.int .i64 u.1, .int .i64 u.2])).run Try.prog w = .ok (.bool true) w := run_eqDr HD.out HWU.out true (by simp [he])
        have heg : ∀ w, (eqGuard .eql 29 (.tmp 11) (.tmp 15) (.agg #[.int .i64 d.1, .int .i64 d.2]) (.agg #[.int .i64 u.1, .int .i64 u.2])).run Try.prog w = .ok () w := eqGuard_dr d u _ _
        have HE := hide he
        clear he
        go_wp2
        go_quiet (fail)
        go_wp2
        go_ret
        refine ⟨⟨k, rfl, ?_⟩, HB1.out.trans ((below_draws HB.out _).mono HB1.out.size)⟩
        rw [decide_eq_true (by omega)]
        exact (List.contains_iff_mem.2 (by rw [← HE.out, HU.out]; exact List.getElem_mem hkl)).symm
      · have heq : ∀ w, (binOp .eql 29 (.agg #[.int .i64 d.1, .int .i64 d.2]) (.agg #[.int .i64 u.1, .int .i64 u.2])).run Try.prog w = .ok (.bool false) w := run_eqDr HD.out HWU.out false (by simp [Ne.symm he])
        have heg : ∀ w, (eqGuard .eql 29 (.tmp 11) (.tmp 15) (.agg #[.int .i64 d.1, .int .i64 d.2]) (.agg #[.int .i64 u.1, .int .i64 u.2])).run Try.prog w = .ok () w := eqGuard_dr d u _ _
        have HE := hide he
        clear he
        go_wp2
        go_quiet (fail)
        go_wp2
        go_roundw
        case rel => exact ⟨k + 1, by omega, by go_num, below_draws HB.out _, fun t ht h => by
          by_cases h2 : t < k
          · exact HA.out t ht h2
          · obtain rfl : t = k := by omega
            rw [← HU.out]; exact HE.out⟩
        case measure => simp [intOf]; omega
    · obtain rfl : k = n := by omega
      go_wp2
      go_ret
      refine ⟨⟨-1, rfl, ?_⟩, HB1.out.trans (HB.out.mono HB1.out.size)⟩
      rw [decide_eq_false (by omega)]
      refine (Bool.eq_false_iff.2 fun hc => ?_).symm
      obtain ⟨t, ht, he⟩ := List.getElem_of_mem (List.contains_iff_mem.1 hc)
      exact HA.out t ht (by rw [HN.out]; exact ht) he
set_option maxHeartbeats 1000000 in
theorem containsDr_any (v : Value) (l : List (Int × Int)) (d : Int × Int) (w : World) (hin : DrsC w v l) (hl : ∀ e ∈ l, wfD e) (hd : wfD d) (hn : l.length ≤ 4) :
    Calls Try.prog 50 #[v, drV d] w fun e w' => e = .returned (.bool (l.contains d)) ∧ Below w.heap.size w w' := by
  have HIN := hide hin
  have HC := hide fun w h => indexDr_any v l d w h hl hd hn
  obtain ⟨a, c, rfl, -⟩ := hin
  clear hl hd hn
  go_enter Try.func50, Try.ntmps50
  go_wp2_with (first | ((with_reducible refine wpList_boxDr d 3 rfl rfl (.tmp 1) rfl rfl ?_); intro w1 h1 b1 s1; have HD1 := hide h1; have HB1 := hide b1; clear h1 b1 s1) | (with_reducible refine wpList_loadDrC (drC_at HD1.out) 6 rfl rfl _ rfl rfl ?_) | ((with_reducible refine (HC.out _ (drsC_below HIN.out HB1.out)).mono ?_); rintro e w2 ⟨⟨k, rfl, hk⟩, hb⟩; have HK := hide hk; have HB2 := hide (HB1.out.trans (hb.mono HB1.out.size)); clear hb hk))
  go_ret
  exact ⟨ret_bool HK.out, HB2.out⟩
theorem exec_loadDrC0 {ρ : Operand → Value} {o : Oper} {w : World} {x : Operand} {g : Nat} {d : Int × Int} (ho : o.op = .load 29 x) (hx : ρ x = .pointer (some ⟨g, 0, none⟩)) (hd : DirAt w g d.1 d.2) :
    (execOp ρ o).run Try.prog w = .ok (.value (drV d)) w := exec_loadDir ho hx hd
end Go.Proofs.Ytjnnoabaepmcnaa
