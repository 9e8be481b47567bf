/-
  Texts of this claim, one behind the other: Swap, Val, Conn, LawsQ, BestP, Bits.
-/
import Derived.Test.YtjnnoabaepmcnaaGreatPackB
import Derived.Test.YtjnnoabaepmcnaaGreatPackF
import Derived.Test.YtjnnoabaepmcnaaGreatPackC
import Derived.Test.YtjnnoabaepmcnaaGreatRows
import Derived.Test.YtjnnoabaepmcnaaGreatPackD
/-
  Switches, pure: the four cells, an image after a switch, lists of switches in order, paths.
-/
namespace Go.Proofs.YtjnnoabaepmcnaaGreat

/-- A switch: two rows and two columns. -/
structure Sw where
  y1 : Int
  y2 : Int
  x1 : Int
  x2 : Int
instance : DecidableEq Sw := fun a b =>
  if h : a.y1 = b.y1 ∧ a.y2 = b.y2 ∧ a.x1 = b.x1 ∧ a.x2 = b.x2 then isTrue (by obtain ⟨a1, a2, a3, a4⟩ := a; obtain ⟨b1, b2, b3, b4⟩ := b; simp only at h; obtain ⟨rfl, rfl, rfl, rfl⟩ := h; rfl)
  else isFalse fun e => h (by rw [e]; exact ⟨rfl, rfl, rfl, rfl⟩)
def zeroSw : Sw := ⟨0, 0, 0, 0⟩
/-- The cell of a list. -/
def cellM (m : List (List Int)) (y x : Nat) : Int := (m.getD y []).getD x 0
theorem cell_mk (R C : Nat) (f : Nat → Nat → Int) {y x : Nat} (hy : y < R) (hx : x < C) : cellM (mkM R C f) y x = f y x := by
  simp [cellM, mkM, rowF, hy, hx]
theorem mk_cell (R C : Nat) (f : Nat → Nat → Int) : mkM R C (cellM (mkM R C f)) = mkM R C f := mkM_congr fun _ _ hy hx => cell_mk R C f hy hx
/-- The four cells of a switch, by number. -/
def four (R C : Nat) (f : Nat → Nat → Int) (a b c d : Nat) : Bool :=
  decide (a < b) && decide (c < d) && decide (b < R) && decide (d < C) && decide (f b d = f a c) && decide (f a d = 1 - f a c) && decide (f b c = 1 - f a c)
theorem four_iff {R C : Nat} {f : Nat → Nat → Int} {a b c d : Nat} : four R C f a b c d = true ↔ a < b ∧ c < d ∧ b < R ∧ d < C ∧ f b d = f a c ∧ f a d = 1 - f a c ∧ f b c = 1 - f a c := by
  simp [four, Bool.and_eq_true, and_assoc]
/-- A switch of an image. -/
def swF (R C : Nat) (f : Nat → Nat → Int) (s : Sw) : Bool :=
  decide (0 ≤ s.y1) && decide (0 ≤ s.x1) && decide (s.y1 < s.y2) && decide (s.x1 < s.x2) && four R C f s.y1.toNat s.y2.toNat s.x1.toNat s.x2.toNat
theorem swF_iff {R C : Nat} {f : Nat → Nat → Int} {s : Sw} : swF R C f s = true ↔ ∃ a b c d : Nat, s = ⟨a, b, c, d⟩ ∧ four R C f a b c d = true := by
  constructor
  · intro h
    simp only [swF, Bool.and_eq_true, decide_eq_true_eq] at h
    obtain ⟨⟨⟨⟨h1, h2⟩, h3⟩, h4⟩, h5⟩ := h
    refine ⟨_, _, _, _, ?_, h5⟩
    obtain ⟨y1, y2, x1, x2⟩ := s
    simp only at h1 h2 h3 h4 ⊢
    rw [Int.toNat_of_nonneg h1, Int.toNat_of_nonneg (by omega), Int.toNat_of_nonneg h2, Int.toNat_of_nonneg (by omega)]
  · rintro ⟨a, b, c, d, rfl, h⟩
    have := four_iff.1 h
    simp only [swF, Bool.and_eq_true, decide_eq_true_eq]
    exact ⟨⟨⟨⟨by omega, by omega⟩, by omega⟩, by omega⟩, by simpa using h⟩
theorem four_congr {R C : Nat} {f g : Nat → Nat → Int} (h : ∀ y x, y < R → x < C → f y x = g y x) (a b c d : Nat) : four R C f a b c d = four R C g a b c d := by
  rw [Bool.eq_iff_iff, four_iff, four_iff]
  constructor
  · rintro ⟨h1, h2, h3, h4, h5⟩
    rw [h b d h3 h4, h a c (by omega) (by omega), h a d (by omega) h4, h b c h3 (by omega)] at h5
    exact ⟨h1, h2, h3, h4, h5⟩
  · rintro ⟨h1, h2, h3, h4, h5⟩
    rw [← h b d h3 h4, ← h a c (by omega) (by omega), ← h a d (by omega) h4, ← h b c h3 (by omega)] at h5
    exact ⟨h1, h2, h3, h4, h5⟩
theorem swF_congr {R C : Nat} {f g : Nat → Nat → Int} (h : ∀ y x, y < R → x < C → f y x = g y x) (s : Sw) : swF R C f s = swF R C g s := by
  unfold swF; rw [four_congr h]
/-- The cells after a switch. -/
def flipN (f : Nat → Nat → Int) (a b c d : Nat) (y x : Nat) : Int := if (y = a ∨ y = b) ∧ (x = c ∨ x = d) then 1 - f y x else f y x
def flipF (f : Nat → Nat → Int) (s : Sw) : Nat → Nat → Int := flipN f s.y1.toNat s.y2.toNat s.x1.toNat s.x2.toNat
theorem flipN_img {R C : Nat} {f : Nat → Nat → Int} (h : Img R C f) (a b c d : Nat) : Img R C (flipN f a b c d) :=
  ⟨h.r1, h.r2, h.c1, h.c2, fun y x hy hx => by unfold flipN; split <;> rcases h.cell y x hy hx with e | e <;> simp [e]⟩
theorem flipF_img {R C : Nat} {f : Nat → Nat → Int} (h : Img R C f) (s : Sw) : Img R C (flipF f s) := flipN_img h _ _ _ _
theorem flipN_flip (f : Nat → Nat → Int) (a b c d : Nat) : flipN (flipN f a b c d) a b c d = f := by
  funext y x
  unfold flipN
  by_cases h : (y = a ∨ y = b) ∧ (x = c ∨ x = d)
  · rw [if_pos h, if_pos h]; omega
  · rw [if_neg h, if_neg h]
theorem flipF_flip (f : Nat → Nat → Int) (s : Sw) : flipF (flipF f s) s = f := flipN_flip f _ _ _ _
theorem flipN_congr {R C : Nat} {f g : Nat → Nat → Int} (h : ∀ y x, y < R → x < C → f y x = g y x) (a b c d : Nat) : ∀ y x, y < R → x < C → flipN f a b c d y x = flipN g a b c d y x := by
  intro y x hy hx; unfold flipN; rw [h y x hy hx]
theorem four_flip {R C : Nat} {f : Nat → Nat → Int} {a b c d : Nat} (h : four R C f a b c d = true) : four R C (flipN f a b c d) a b c d = true := by
  have := four_iff.1 h
  refine four_iff.2 ⟨this.1, this.2.1, this.2.2.1, this.2.2.2.1, ?_⟩
  unfold flipN
  simp
  omega
theorem swF_flip {R C : Nat} {f : Nat → Nat → Int} {s : Sw} (h : swF R C f s = true) : swF R C (flipF f s) s = true := by
  obtain ⟨a, b, c, d, rfl, h'⟩ := swF_iff.1 h
  exact swF_iff.2 ⟨a, b, c, d, rfl, by simpa [flipF] using four_flip h'⟩

/-- The same of lists. -/
def swB (m : List (List Int)) (s : Sw) : Bool := swF m.length (widthM m) (cellM m) s
def flipM (m : List (List Int)) (s : Sw) : List (List Int) := mkM m.length (widthM m) (flipF (cellM m) s)
theorem swB_mk {R C : Nat} {f : Nat → Nat → Int} (h : Img R C f) (s : Sw) : swB (mkM R C f) s = swF R C f s := by
  have := h.r1
  unfold swB
  rw [mkM_len, width_mkM (by omega)]
  exact swF_congr (fun y x hy hx => cell_mk R C f hy hx) s
theorem flipM_mk {R C : Nat} {f : Nat → Nat → Int} (h : Img R C f) (s : Sw) : flipM (mkM R C f) s = mkM R C (flipF f s) := by
  have := h.r1
  unfold flipM
  rw [mkM_len, width_mkM (by omega)]
  exact mkM_congr (flipN_congr (fun y x hy hx => cell_mk R C f hy hx) _ _ _ _)

/-- A node: a list that is a valid image of this size. -/
def Node (R C : Nat) (m : List (List Int)) : Prop := ∃ f, m = mkM R C f ∧ Img R C f
theorem node_flip {R C : Nat} {m : List (List Int)} (h : Node R C m) (s : Sw) : Node R C (flipM m s) := by
  obtain ⟨f, rfl, h⟩ := h
  exact ⟨_, flipM_mk h s, flipF_img h s⟩
theorem flip_back {R C : Nat} {m : List (List Int)} (h : Node R C m) (s : Sw) : flipM (flipM m s) s = m := by
  obtain ⟨f, rfl, h⟩ := h
  rw [flipM_mk h, flipM_mk (flipF_img h s), flipF_flip]
theorem swB_back {R C : Nat} {m : List (List Int)} (h : Node R C m) {s : Sw} (hs : swB m s = true) : swB (flipM m s) s = true := by
  obtain ⟨f, rfl, h⟩ := h
  rw [swB_mk h] at hs
  rw [flipM_mk h, swB_mk (flipF_img h s)]
  exact swF_flip hs

/-- Switches one after the other. -/
def goM : List (List Int) → List Sw → Option (List (List Int))
  | m, [] => some m
  | m, s :: p => if swB m s then goM (flipM m s) p else none
theorem goM_append (m : List (List Int)) (p q : List Sw) : goM m (p ++ q) = (goM m p).bind fun t => goM t q := by
  induction p generalizing m with
  | nil => rfl
  | cons s p ih =>
    simp only [List.cons_append, goM]
    split
    · exact ih _
    · rfl
theorem goM_snoc {m t : List (List Int)} {p : List Sw} {s : Sw} (h : goM m p = some t) (hs : swB t s = true) : goM m (p ++ [s]) = some (flipM t s) := by
  rw [goM_append, h]
  simp [goM, hs]
theorem goM_unsnoc {m u : List (List Int)} {p : List Sw} {s : Sw} (h : goM m (p ++ [s]) = some u) : ∃ t, goM m p = some t ∧ swB t s = true ∧ u = flipM t s := by
  rw [goM_append] at h
  cases ht : goM m p with
  | none => rw [ht] at h; cases h
  | some t =>
    rw [ht] at h
    simp only [Option.bind_some, goM] at h
    split at h
    · rename_i hs; exact ⟨t, rfl, hs, (Option.some.inj h).symm⟩
    · cases h
theorem goM_node {R C : Nat} {m t : List (List Int)} {p : List Sw} (hm : Node R C m) (h : goM m p = some t) : Node R C t := by
  induction p generalizing m with
  | nil => cases h; exact hm
  | cons s p ih =>
    simp only [goM] at h
    split at h
    · exact ih (node_flip hm s) h
    · cases h
theorem goM_rev {R C : Nat} {m t : List (List Int)} {p : List Sw} (hm : Node R C m) (h : goM m p = some t) : goM t p.reverse = some m := by
  induction p generalizing m with
  | nil => cases h; rfl
  | cons s p ih =>
    simp only [goM] at h
    split at h
    · rename_i hs
      rw [List.reverse_cons]
      have := goM_snoc (ih (node_flip hm s) h) (swB_back hm hs)
      rw [flip_back hm s] at this
      exact this
    · cases h

/-- A switch by its number, and its number. -/
def decS (i : Nat) : Sw := ⟨((i / 125 : Nat) : Int), ((i / 25 % 5 : Nat) : Int), ((i / 5 % 5 : Nat) : Int), ((i % 5 : Nat) : Int)⟩
def codeS (s : Sw) : Int := ((s.y1 * 5 + s.y2) * 5 + s.x1) * 5 + s.x2
theorem code_dec (i : Nat) : codeS (decS i) = i := by unfold codeS decS; simp only; omega
/-- The switches up to a number, in order. -/
def upS (m : List (List Int)) (k : Nat) : List Sw := ((List.range k).filter fun i => swB m (decS i)).map decS
theorem upS_zero (m : List (List Int)) : upS m 0 = [] := rfl
theorem upS_yes {m : List (List Int)} {k : Nat} (h : swB m (decS k) = true) : upS m (k + 1) = upS m k ++ [decS k] := by
  unfold upS; rw [List.range_succ, List.filter_append, List.map_append]; simp [h]
theorem upS_no {m : List (List Int)} {k : Nat} (h : swB m (decS k) = false) : upS m (k + 1) = upS m k := by
  unfold upS; rw [List.range_succ, List.filter_append, List.map_append]; simp [h]
theorem upS_skip {m : List (List Int)} {k l : Nat} (hkl : k ≤ l) (h : ∀ i, k ≤ i → i < l → swB m (decS i) = false) : upS m l = upS m k := by
  induction l with
  | zero => obtain rfl : k = 0 := by omega
            rfl
  | succ l ih =>
    by_cases e : k = l + 1
    · rw [e]
    · rw [upS_no (h l (by omega) (by omega)), ih (by omega) fun i h1 h2 => h i h1 (by omega)]
def swsM (m : List (List Int)) : List Sw := upS m 625
theorem upS_len (m : List (List Int)) (k : Nat) : (upS m k).length ≤ k := by
  unfold upS; rw [List.length_map]
  exact Nat.le_trans (List.length_filter_le _ _) (by rw [List.length_range]; exact Nat.le_refl _)
theorem upS_mem {m : List (List Int)} {k : Nat} {s : Sw} (h : s ∈ upS m k) : swB m s = true ∧ ∃ i, i < k ∧ s = decS i := by
  unfold upS at h
  simp only [List.mem_map, List.mem_filter, List.mem_range] at h
  obtain ⟨i, ⟨h1, h2⟩, rfl⟩ := h
  exact ⟨h2, i, h1, rfl⟩
theorem sws_mem {R C : Nat} {m : List (List Int)} (hm : Node R C m) {s : Sw} : s ∈ swsM m ↔ swB m s = true := by
  refine ⟨fun h => (upS_mem h).1, fun h => ?_⟩
  obtain ⟨f, rfl, hI⟩ := hm
  have h0 := h
  rw [swB_mk hI] at h
  obtain ⟨a, b, c, d, rfl, hf⟩ := swF_iff.1 h
  have hf := four_iff.1 hf
  have := hI.r2; have := hI.c2
  unfold swsM upS
  simp only [List.mem_map, List.mem_filter, List.mem_range]
  have e : decS (((a * 5 + b) * 5 + c) * 5 + d) = ⟨a, b, c, d⟩ := by
    unfold decS
    rw [show (((a * 5 + b) * 5 + c) * 5 + d) / 125 = a by omega, show (((a * 5 + b) * 5 + c) * 5 + d) / 25 % 5 = b by omega, show (((a * 5 + b) * 5 + c) * 5 + d) / 5 % 5 = c by omega, show (((a * 5 + b) * 5 + c) * 5 + d) % 5 = d by omega]
  exact ⟨((a * 5 + b) * 5 + c) * 5 + d, ⟨by omega, by rw [e]; exact h0⟩, e⟩
/-- One switch comes before another. -/
def swlt (a b : Sw) : Prop := codeS a < codeS b
theorem upS_sorted (m : List (List Int)) (k : Nat) : (upS m k).Pairwise swlt := by
  unfold upS
  rw [List.pairwise_map]
  refine List.Pairwise.imp ?_ (List.Pairwise.filter _ (List.pairwise_lt_range (n := k)))
  intro a b h
  unfold swlt; rw [code_dec, code_dec]; omega
end Go.Proofs.YtjnnoabaepmcnaaGreat
/-
  Lists of switches by a number: the shorter ones first, equally long ones in order.
-/
namespace Go.Proofs.YtjnnoabaepmcnaaGreat

/-- The number of a switch, from 1 up to 625. -/
def numS (s : Sw) : Nat := (codeS s).toNat + 1
theorem num_dec (i : Nat) : numS (decS i) = i + 1 := by unfold numS; rw [code_dec]; rfl
def val (p : List Sw) : Nat := p.foldl (fun v s => v * 626 + numS s) 0
theorem val_nil : val [] = 0 := rfl
theorem val_snoc (p : List Sw) (s : Sw) : val (p ++ [s]) = val p * 626 + numS s := by simp [val, List.foldl_append]
theorem foldl_val (p : List Sw) : ∀ v, p.foldl (fun v s => v * 626 + numS s) v = v * 626 ^ p.length + val p := by
  induction p with
  | nil => intro v; simp [val]
  | cons s p ih =>
    intro v
    have h0 := ih (v * 626 + numS s)
    have h1 := ih (0 * 626 + numS s)
    unfold val
    simp only [List.foldl_cons, List.length_cons] at h0 h1 ⊢
    rw [h0, h1, Nat.pow_succ, Nat.add_mul, Nat.mul_assoc, Nat.mul_comm 626, Nat.zero_mul, Nat.zero_add, Nat.add_assoc]
theorem val_append (p q : List Sw) : val (p ++ q) = val p * 626 ^ q.length + val q := by
  have := foldl_val q (val p)
  unfold val at this ⊢
  rw [List.foldl_append, this]
theorem val_cons (s : Sw) (p : List Sw) : val (s :: p) = numS s * 626 ^ p.length + val p := by
  have := val_append [s] p
  simpa [val] using this
/-- Switches with numbers in their range. -/
def InR (p : List Sw) : Prop := ∀ s ∈ p, 1 ≤ numS s ∧ numS s ≤ 625
theorem inR_snoc {p : List Sw} {s : Sw} : InR (p ++ [s]) ↔ InR p ∧ (1 ≤ numS s ∧ numS s ≤ 625) := by
  unfold InR
  constructor
  · intro h; exact ⟨fun t ht => h t (by simp [ht]), h s (by simp)⟩
  · rintro ⟨h1, h2⟩ t ht
    rcases List.mem_append.1 ht with h | h
    · exact h1 t h
    · rw [List.mem_singleton] at h; subst h; exact h2
theorem inR_cons {p : List Sw} {s : Sw} : InR (s :: p) ↔ (1 ≤ numS s ∧ numS s ≤ 625) ∧ InR p := by
  unfold InR
  constructor
  · intro h; exact ⟨h s (by simp), fun t ht => h t (by simp [ht])⟩
  · rintro ⟨h1, h2⟩ t ht
    rcases List.mem_cons.1 ht with h | h
    · subst h; exact h1
    · exact h2 t h
theorem snoc_ind {α : Type} {C : List α → Prop} (h0 : C []) (h1 : ∀ p s, C p → C (p ++ [s])) : ∀ p, C p := by
  intro p
  have : ∀ n (p : List α), p.length = n → C p := by
    intro n
    induction n with
    | zero => intro p hp; rw [List.eq_nil_of_length_eq_zero hp]; exact h0
    | succ n ih =>
      intro p hp
      rcases List.eq_nil_or_concat p with rfl | ⟨q, b, rfl⟩
      · simp at hp
      · rw [List.concat_eq_append] at hp ⊢
        exact h1 q b (ih q (by simpa using hp))
  exact this _ p rfl
theorem val_lt {p : List Sw} (h : InR p) : val p + 1 ≤ 626 ^ p.length := by
  induction p using snoc_ind with
  | h0 => simp [val]
  | h1 p s ih =>
    obtain ⟨h1, h2⟩ := inR_snoc.1 h
    have := ih h1
    rw [val_snoc, List.length_append, List.length_singleton, Nat.pow_succ]
    omega
theorem val_ge {p : List Sw} (h : InR p) : 626 ^ p.length ≤ 626 * val p + 1 := by
  induction p using snoc_ind with
  | h0 => simp [val]
  | h1 p s ih =>
    obtain ⟨h1, h2⟩ := inR_snoc.1 h
    have := ih h1
    rw [val_snoc, List.length_append, List.length_singleton, Nat.pow_succ]
    omega
theorem val_short {p q : List Sw} (hp : InR p) (hq : InR q) (h : p.length < q.length) : val p < val q := by
  have h1 := val_lt hp
  have h2 := val_ge hq
  have h3 : 626 ^ (p.length + 1) ≤ 626 ^ q.length := Nat.pow_le_pow_right (by decide) h
  rw [Nat.pow_succ] at h3
  omega
theorem val_inj {p : List Sw} : ∀ {q : List Sw}, InR p → InR q → (∀ s ∈ p, ∃ i, i < 625 ∧ s = decS i) → (∀ s ∈ q, ∃ i, i < 625 ∧ s = decS i) → val p = val q → p = q := by
  induction p using snoc_ind with
  | h0 =>
    intro q _ hq _ _ h
    rcases List.eq_nil_or_concat q with rfl | ⟨q', b, rfl⟩
    · rfl
    · rw [List.concat_eq_append] at h hq
      have := (inR_snoc.1 hq).2
      rw [val_snoc, val_nil] at h
      omega
  | h1 p s ih =>
    intro q hp hq hp2 hq2 h
    obtain ⟨hp1, hs⟩ := inR_snoc.1 hp
    rcases List.eq_nil_or_concat q with rfl | ⟨q', b, rfl⟩
    · rw [val_snoc, val_nil] at h; omega
    · rw [List.concat_eq_append] at h hq hq2 ⊢
      obtain ⟨hq1, hb⟩ := inR_snoc.1 hq
      rw [val_snoc, val_snoc] at h
      have e1 : val p = val q' := by omega
      have e2 : numS s = numS b := by omega
      obtain ⟨i, hi, rfl⟩ := hp2 s (by simp)
      obtain ⟨j, hj, rfl⟩ := hq2 b (by simp)
      rw [num_dec, num_dec] at e2
      obtain rfl : i = j := by omega
      rw [ih hp1 hq1 (fun t ht => hp2 t (by simp [ht])) (fun t ht => hq2 t (by simp [ht])) e1]

/-- Each switch of an image has a number. -/
theorem swB_num {R C : Nat} {m : List (List Int)} (hm : Node R C m) {s : Sw} (h : swB m s = true) : ∃ i, i < 625 ∧ s = decS i := (upS_mem ((sws_mem hm).2 h)).2
theorem goM_inR {R C : Nat} : ∀ (p : List Sw) {m t : List (List Int)}, Node R C m → goM m p = some t → (∀ s ∈ p, ∃ i, i < 625 ∧ s = decS i)
  | [], _, _, _, _ => fun s hs => by simp at hs
  | s :: p, m, t, hm, h => by
    simp only [goM] at h
    split at h
    · rename_i hs
      intro u hu
      rcases List.mem_cons.1 hu with rfl | hu
      · exact swB_num hm hs
      · exact goM_inR p (node_flip hm s) h u hu
    · cases h
theorem inR_of {p : List Sw} (h : ∀ s ∈ p, ∃ i, i < 625 ∧ s = decS i) : InR p := fun s hs => by
  obtain ⟨i, hi, rfl⟩ := h s hs
  rw [num_dec]; omega
/-- A path that comes before all others. -/
def Best (m t : List (List Int)) (p : List Sw) : Prop := goM m p = some t ∧ ∀ q, goM m q = some t → val p ≤ val q
theorem best_one {R C : Nat} {m t : List (List Int)} {p q : List Sw} (hm : Node R C m) (h1 : Best m t p) (h2 : Best m t q) : p = q := by
  have a := goM_inR p hm h1.1; have b := goM_inR q hm h2.1
  exact val_inj (inR_of a) (inR_of b) a b (Nat.le_antisymm (h1.2 q h2.1) (h2.2 p h1.1))
theorem best_len {R C : Nat} {m t : List (List Int)} {p q : List Sw} (hm : Node R C m) (h : Best m t p) (hq : goM m q = some t) : p.length ≤ q.length := by
  refine Nat.le_of_not_lt fun hl => ?_
  have := val_short (inR_of (goM_inR q hm hq)) (inR_of (goM_inR p hm h.1)) hl
  have := h.2 q hq
  omega
/-- The rest of such a path is one too. -/
theorem best_tail {R C : Nat} {m t : List (List Int)} {s : Sw} {p : List Sw} (hm : Node R C m) (h : Best m t (s :: p)) : swB m s = true ∧ Best (flipM m s) t p := by
  obtain ⟨h1, h2⟩ := h
  simp only [goM] at h1
  split at h1
  · rename_i hs
    refine ⟨hs, h1, fun q hq => ?_⟩
    have hn := node_flip hm s
    have hg : goM m (s :: q) = some t := by simp only [goM, hs, if_true]; exact hq
    have h3 := h2 _ hg
    have ip := inR_of (goM_inR p hn h1); have iq := inR_of (goM_inR q hn hq)
    rcases Nat.lt_trichotomy p.length q.length with hl | hl | hl
    · exact Nat.le_of_lt (val_short ip iq hl)
    · rw [val_cons, val_cons, hl] at h3; omega
    · exfalso
      have i1 := inR_of (goM_inR (s :: q) hm hg)
      have i2 := inR_of (goM_inR (s :: p) hm (by simp only [goM, hs, if_true]; exact h1))
      have := val_short i1 i2 (by simp only [List.length_cons]; omega)
      omega
  · cases h1
theorem best_nil (m : List (List Int)) : Best m m [] := ⟨rfl, fun _ _ => Nat.zero_le _⟩
end Go.Proofs.YtjnnoabaepmcnaaGreat
/-
  Any two images with the same sums are joined by switches: twice as many as there are differences, at most; and four times as many at least.
-/
namespace Go.Proofs.YtjnnoabaepmcnaaGreat

theorem cnt_upd {p q : Nat → Bool} {j : Nat} : ∀ {N : Nat}, j < N → (∀ i, i < N → i ≠ j → p i = q i) → cnt p N + (if q j = true then 1 else 0) = cnt q N + (if p j = true then 1 else 0)
  | 0, h, _ => absurd h (Nat.not_lt_zero _)
  | N + 1, h, e => by
    by_cases hj : j = N
    · subst hj
      have : cnt p j = cnt q j := cnt_congr fun i hi => e i (by omega) (by omega)
      simp only [cnt, this]; omega
    · have h1 := cnt_upd (p := p) (q := q) (N := N) (by omega) fun i hi hne => e i (by omega) hne
      have h2 := e N (by omega) (fun h => hj h.symm)
      simp only [cnt, h2]; omega
theorem cnt_mono {p q : Nat → Bool} : ∀ {N : Nat}, (∀ i, i < N → q i = true → p i = true) → cnt q N ≤ cnt p N
  | 0, _ => Nat.le_refl _
  | N + 1, h => by
    have h1 := cnt_mono (p := p) (q := q) (N := N) fun i hi => h i (by omega)
    have h2 := h N (by omega)
    simp only [cnt]
    cases hq : q N <;> cases hp : p N <;> simp_all <;> omega
theorem cnt_less {p q : Nat → Bool} {j : Nat} : ∀ {N : Nat}, j < N → (∀ i, i < N → q i = true → p i = true) → p j = true → q j = false → cnt q N < cnt p N
  | 0, h, _, _, _ => absurd h (Nat.not_lt_zero _)
  | N + 1, h, e, hp, hq => by
    by_cases hj : j = N
    · subst hj
      have := cnt_mono (p := p) (q := q) (N := j) fun i hi => e i (by omega)
      simp only [cnt, hp, hq]; simp; omega
    · have h1 := cnt_less (p := p) (q := q) (N := N) (by omega) (fun i hi => e i (by omega)) hp hq
      have h2 := e N (by omega)
      simp only [cnt]
      cases hq' : q N <;> cases hp' : p N <;> simp_all <;> omega
theorem cnt_other {p q : Nat → Bool} {N x : Nat} (h : cnt p N = cnt q N) (hx : x < N) (hp : p x = true) (hq : q x = false) : ∃ y, y < N ∧ p y = false ∧ q y = true := by
  refine Classical.byContradiction fun hn => ?_
  have := cnt_less (p := p) (q := q) hx (fun i hi hqi => by
    cases hpi : p i with
    | true => rfl
    | false => exact absurd ⟨i, hi, hpi, hqi⟩ hn) hp hq
  omega
theorem max_row (P : Nat → Nat) : ∀ N, 0 < N → ∃ r, r < N ∧ ∀ i, i < N → P i ≤ P r
  | 0, h => absurd h (Nat.not_lt_zero _)
  | N + 1, _ => by
    by_cases hN : N = 0
    · subst hN; exact ⟨0, by omega, fun i hi => by obtain rfl : i = 0 := by omega
                                                   exact Nat.le_refl _⟩
    · obtain ⟨r, hr, h⟩ := max_row P N (by omega)
      by_cases e : P r ≤ P N
      · exact ⟨N, by omega, fun i hi => by
          by_cases hi' : i = N
          · rw [hi']; exact Nat.le_refl _
          · have := h i (by omega); omega⟩
      · exact ⟨r, by omega, fun i hi => by
          by_cases hi' : i = N
          · rw [hi']; omega
          · exact h i (by omega)⟩

/-- How many cells differ. -/
def diff (R C : Nat) (f g : Nat → Nat → Int) : Nat := cnt (fun i => imgF R C f i != imgF R C g i) 25
theorem diff_symm (R C : Nat) (f g : Nat → Nat → Int) : diff R C f g = diff R C g f := cnt_congr fun i _ => by
  rw [Bool.eq_iff_iff, bne_iff_ne, bne_iff_ne]; exact ⟨Ne.symm, Ne.symm⟩
theorem bne_in {R C : Nat} {f g : Nat → Nat → Int} {y x : Nat} (hy : y < R) (hx : x < C) (hC : C ≤ 5) : (imgF R C f (5 * y + x) != imgF R C g (5 * y + x)) = (f y x != g y x) := by
  rw [imgF_at _ _ _ _ _ (by omega), imgF_at _ _ _ _ _ (by omega), if_pos ⟨hy, hx⟩, if_pos ⟨hy, hx⟩]
def ne1 (a b : Int) : Nat := if a = b then 0 else 1
theorem ne1_if (a b : Int) : (if (a != b) = true then 1 else 0) = ne1 a b := by
  unfold ne1
  by_cases e : a = b
  · subst e; simp
  · simp [e]
theorem flip_in (f : Nat → Nat → Int) (a b c d : Nat) {y x : Nat} (h : (y = a ∨ y = b) ∧ (x = c ∨ x = d)) : flipN f a b c d y x = 1 - f y x := by unfold flipN; rw [if_pos h]
theorem flip_out (f : Nat → Nat → Int) (a b c d : Nat) {y x : Nat} (h : ¬ ((y = a ∨ y = b) ∧ (x = c ∨ x = d))) : flipN f a b c d y x = f y x := by unfold flipN; rw [if_neg h]
/-- The differences behind a switch. -/
theorem diff_flip {R C : Nat} (f g : Nat → Nat → Int) {a b c d : Nat} (hR : R ≤ 5) (hC : C ≤ 5) (hab : a ≠ b) (hcd : c ≠ d) (ha : a < R) (hb : b < R) (hc : c < C) (hd : d < C) :
    diff R C (flipN f a b c d) g + (ne1 (f a c) (g a c) + ne1 (f a d) (g a d) + ne1 (f b c) (g b c) + ne1 (f b d) (g b d)) =
      diff R C f g + (ne1 (1 - f a c) (g a c) + ne1 (1 - f a d) (g a d) + ne1 (1 - f b c) (g b c) + ne1 (1 - f b d) (g b d)) := by
  unfold diff
  obtain ⟨p, hp⟩ : ∃ p : Nat → Bool, p = fun i => imgF R C f i != imgF R C g i := ⟨_, rfl⟩
  obtain ⟨q, hq⟩ : ∃ q : Nat → Bool, q = fun i => imgF R C (flipN f a b c d) i != imgF R C g i := ⟨_, rfl⟩
  have hpv : ∀ y x, y < R → x < C → p (5 * y + x) = (f y x != g y x) := fun y x hy hx => by rw [hp]; exact bne_in hy hx hC
  have hqv : ∀ y x, y < R → x < C → (y = a ∨ y = b) ∧ (x = c ∨ x = d) → q (5 * y + x) = (1 - f y x != g y x) := fun y x hy hx h => by
    rw [hq]
    have := bne_in (f := flipN f a b c d) (g := g) hy hx hC
    rw [flip_in f a b c d h] at this; exact this
  have hsame : ∀ i, i < 25 → i ≠ 5 * a + c → i ≠ 5 * a + d → i ≠ 5 * b + c → i ≠ 5 * b + d → q i = p i := fun i hi h1 h2 h3 h4 => by
    rw [hp, hq]
    have e : imgF R C (flipN f a b c d) i = imgF R C f i := by
      unfold imgF
      by_cases hh : i / 5 < R ∧ i % 5 < C
      · rw [if_pos hh, if_pos hh, flip_out]
        intro hx
        omega
      · rw [if_neg hh, if_neg hh]
    simp only [e]
  have e1 := cnt_upd (p := q) (q := fun i => if i = 5 * a + c then p i else q i) (j := 5 * a + c) (N := 25) (by omega) (fun i _ h => by simp [h])
  have e2 := cnt_upd (p := fun i => if i = 5 * a + c then p i else q i) (q := fun i => if i = 5 * a + c ∨ i = 5 * a + d then p i else q i) (j := 5 * a + d) (N := 25) (by omega) (fun i _ h => by simp [h])
  have e3 := cnt_upd (p := fun i => if i = 5 * a + c ∨ i = 5 * a + d then p i else q i) (q := fun i => if i = 5 * a + c ∨ i = 5 * a + d ∨ i = 5 * b + c then p i else q i) (j := 5 * b + c) (N := 25) (by omega) (fun i _ h => by simp [h])
  have e4 := cnt_upd (p := fun i => if i = 5 * a + c ∨ i = 5 * a + d ∨ i = 5 * b + c then p i else q i) (q := p) (j := 5 * b + d) (N := 25) (by omega) (fun i hi h => by
    by_cases hh : i = 5 * a + c ∨ i = 5 * a + d ∨ i = 5 * b + c
    · simp [hh]
    · simp only [hh, if_false]
      exact hsame i hi (fun e => hh (.inl e)) (fun e => hh (.inr (.inl e))) (fun e => hh (.inr (.inr e))) h)
  have n1 : ¬ (5 * a + d = 5 * a + c) := by omega
  have n2 : ¬ (5 * b + c = 5 * a + c ∨ 5 * b + c = 5 * a + d) := by omega
  have n3 : ¬ (5 * b + d = 5 * a + c ∨ 5 * b + d = 5 * a + d ∨ 5 * b + d = 5 * b + c) := by omega
  simp only [if_true, n1, n2, n3, if_false, or_true] at e1 e2 e3 e4
  rw [hpv a c ha hc, hqv a c ha hc ⟨.inl rfl, .inl rfl⟩, ne1_if, ne1_if] at e1
  rw [hpv a d ha hd, hqv a d ha hd ⟨.inl rfl, .inr rfl⟩, ne1_if, ne1_if] at e2
  rw [hpv b c hb hc, hqv b c hb hc ⟨.inr rfl, .inl rfl⟩, ne1_if, ne1_if] at e3
  rw [hpv b d hb hd, hqv b d hb hd ⟨.inr rfl, .inr rfl⟩, ne1_if, ne1_if] at e4
  rw [← hp, ← hq]
  omega
theorem ne1_le (a b : Int) : ne1 a b ≤ 1 := by unfold ne1; split <;> omega
theorem diff_near {R C : Nat} (f g : Nat → Nat → Int) {a b c d : Nat} (hR : R ≤ 5) (hC : C ≤ 5) (hab : a ≠ b) (hcd : c ≠ d) (ha : a < R) (hb : b < R) (hc : c < C) (hd : d < C) : diff R C f g ≤ diff R C (flipN f a b c d) g + 4 := by
  have := diff_flip f g hR hC hab hcd ha hb hc hd
  have := ne1_le (f a c) (g a c); have := ne1_le (f a d) (g a d); have := ne1_le (f b c) (g b c); have := ne1_le (f b d) (g b d)
  omega

/-- The same sums. -/
def SameF (R C : Nat) (f g : Nat → Nat → Int) : Prop := (∀ y, y < R → rs C f y = rs C g y) ∧ ∀ x, x < C → cs R f x = cs R g x
theorem sameF_symm {R C : Nat} {f g : Nat → Nat → Int} (h : SameF R C f g) : SameF R C g f := ⟨fun y hy => (h.1 y hy).symm, fun x hx => (h.2 x hx).symm⟩
theorem sameF_trans {R C : Nat} {f g k : Nat → Nat → Int} (h : SameF R C f g) (h2 : SameF R C g k) : SameF R C f k := ⟨fun y hy => (h.1 y hy).trans (h2.1 y hy), fun x hx => (h.2 x hx).trans (h2.2 x hx)⟩
theorem cnt_two {p q : Nat → Bool} {N c d : Nat} (hc : c < N) (hd : d < N) (hcd : c ≠ d) (h : ∀ i, i < N → i ≠ c → i ≠ d → p i = q i) (h1 : p c = q d) (h2 : p d = q c) : cnt p N = cnt q N := by
  have e1 := cnt_upd (p := p) (q := fun i => if i = c then q i else p i) (j := c) (N := N) hc (fun i _ h => by simp [h])
  have e2 := cnt_upd (p := fun i => if i = c then q i else p i) (q := q) (j := d) (N := N) hd (fun i hi hne => by
    by_cases hh : i = c
    · simp [hh]
    · simp only [hh, if_false]; exact h i hi hh hne)
  have n : ¬ d = c := fun e => hcd e.symm
  simp only [if_true, n, if_false] at e1 e2
  rw [h1] at e1; rw [h2] at e2
  omega
theorem sameF_flip {R C : Nat} {f : Nat → Nat → Int} {a b c d : Nat} (h : four R C f a b c d = true) (hI : Img R C f) : SameF R C (flipN f a b c d) f := by
  obtain ⟨h1, h2, h3, h4, h5, h6, h7⟩ := four_iff.1 h
  have hv := hI.cell a c (by omega) (by omega)
  constructor
  · intro y hy
    unfold rs
    by_cases hh : y = a ∨ y = b
    · refine cnt_two (c := c) (d := d) (by omega) (by omega) (by omega) (fun i _ n1 n2 => by rw [flip_out f a b c d (by omega)]) ?_ ?_
      · rw [flip_in f a b c d ⟨hh, .inl rfl⟩]
        rcases hh with rfl | rfl
        · rw [h6]
        · rw [h7, h5]; congr 1; omega
      · rw [flip_in f a b c d ⟨hh, .inr rfl⟩]
        rcases hh with rfl | rfl
        · rw [h6]; congr 1; omega
        · rw [h7, h5]
    · exact cnt_congr fun x _ => by rw [flip_out f a b c d (fun e => hh e.1)]
  · intro x hx
    unfold cs
    by_cases hh : x = c ∨ x = d
    · refine cnt_two (c := a) (d := b) (by omega) (by omega) (by omega) (fun i _ n1 n2 => by rw [flip_out f a b c d (by omega)]) ?_ ?_
      · rw [flip_in f a b c d ⟨.inl rfl, hh⟩]
        rcases hh with rfl | rfl
        · rw [h7]
        · rw [h6, h5]; congr 1; omega
      · rw [flip_in f a b c d ⟨.inr rfl, hh⟩]
        rcases hh with rfl | rfl
        · rw [h7]; congr 1; omega
        · rw [h6, h5]
    · exact cnt_congr fun y _ => by rw [flip_out f a b c d (fun e => hh e.2)]
theorem four_any {R C : Nat} {f : Nat → Nat → Int} {r1 r2 c1 c2 : Nat} (hr : r1 ≠ r2) (hc : c1 ≠ c2) (h1 : r1 < R) (h2 : r2 < R) (h3 : c1 < C) (h4 : c2 < C) (e1 : f r2 c2 = f r1 c1) (e2 : f r1 c2 = 1 - f r1 c1) (e3 : f r2 c1 = 1 - f r1 c1) :
    ∃ a b c d, four R C f a b c d = true ∧ ((a = r1 ∧ b = r2) ∨ (a = r2 ∧ b = r1)) ∧ ((c = c1 ∧ d = c2) ∨ (c = c2 ∧ d = c1)) := by
  rcases Nat.lt_or_gt_of_ne hr with a1 | a1 <;> rcases Nat.lt_or_gt_of_ne hc with a2 | a2
  · exact ⟨r1, r2, c1, c2, four_iff.2 ⟨a1, a2, h2, h4, e1, e2, e3⟩, .inl ⟨rfl, rfl⟩, .inl ⟨rfl, rfl⟩⟩
  · exact ⟨r1, r2, c2, c1, four_iff.2 ⟨a1, a2, h2, h3, by omega, by omega, by omega⟩, .inl ⟨rfl, rfl⟩, .inr ⟨rfl, rfl⟩⟩
  · exact ⟨r2, r1, c1, c2, four_iff.2 ⟨a1, a2, h1, h4, by omega, by omega, by omega⟩, .inr ⟨rfl, rfl⟩, .inl ⟨rfl, rfl⟩⟩
  · exact ⟨r2, r1, c2, c1, four_iff.2 ⟨a1, a2, h1, h3, by omega, by omega, by omega⟩, .inr ⟨rfl, rfl⟩, .inr ⟨rfl, rfl⟩⟩
/-- A switch of the one or of the other that makes them nearer. -/
theorem nearer {R C : Nat} {f g : Nat → Nat → Int} (hf : Img R C f) (hg : Img R C g) (hs : SameF R C f g) {y x : Nat} (hy : y < R) (hx : x < C) (hne : f y x ≠ g y x) :
    (∃ a b c d, four R C f a b c d = true ∧ diff R C (flipN f a b c d) g + 2 ≤ diff R C f g) ∨ ∃ a b c d, four R C g a b c d = true ∧ diff R C (flipN g a b c d) f + 2 ≤ diff R C g f := by
  have hR := hf.r2; have hC := hf.c2
  have row : ∀ {f g : Nat → Nat → Int}, Img R C f → Img R C g → SameF R C f g → ∀ {y x : Nat}, y < R → x < C → f y x = 1 → g y x = 0 → ∃ x', x' < C ∧ f y x' = 0 ∧ g y x' = 1 := by
    intro f g hf hg hs y x hy hx h1 h2
    obtain ⟨x', hx', q1, q2⟩ := cnt_other (hs.1 y hy) hx (by simp [h1]) (by simp [h2])
    have := hf.cell y x' hy hx'
    simp at q1 q2
    exact ⟨x', hx', by omega, q2⟩
  have col : ∀ {f g : Nat → Nat → Int}, Img R C f → Img R C g → SameF R C f g → ∀ {y x : Nat}, y < R → x < C → f y x = 1 → g y x = 0 → ∃ y', y' < R ∧ f y' x = 0 ∧ g y' x = 1 := by
    intro f g hf hg hs y x hy hx h1 h2
    obtain ⟨y', hy', q1, q2⟩ := cnt_other (hs.2 x hx) hy (by simp [h1]) (by simp [h2])
    have := hf.cell y' x hy' hx
    simp at q1 q2
    exact ⟨y', hy', by omega, q2⟩
  obtain ⟨P, hP⟩ : ∃ P : Nat → Nat, ∀ r, P r = cnt (fun x => f r x == 1 && g r x == 0) C := ⟨_, fun _ => rfl⟩
  have hpos : ∃ x, x < C ∧ f y x = 1 ∧ g y x = 0 := by
    rcases hf.cell y x hy hx with h1 | h1
    · have h2 : g y x = 1 := by have := hg.cell y x hy hx; omega
      obtain ⟨x', hx', q1, q2⟩ := row hg hf (sameF_symm hs) hy hx h2 h1
      exact ⟨x', hx', q2, q1⟩
    · exact ⟨x, hx, h1, by have := hg.cell y x hy hx; omega⟩
  obtain ⟨x0, hx0, p1, p2⟩ := hpos
  obtain ⟨r1, hr1, hmax⟩ := max_row P R (by omega)
  have hP1 : 0 < P r1 := by
    have h1 := hmax y hy
    have h2 : 0 < P y := by
      rw [hP]
      have := cnt_less (p := fun x => f y x == 1 && g y x == 0) (q := fun _ => false) (N := C) hx0 (fun _ _ h => by cases h) (by simp [p1, p2]) rfl
      omega
    omega
  obtain ⟨ca, hca, hq⟩ : ∃ i, i < C ∧ (f r1 i == 1 && g r1 i == 0) = true := by
    refine Classical.byContradiction fun hn => ?_
    have : P r1 = 0 := by
      rw [hP]
      exact cnt_none fun i hi => by
        cases hh : (f r1 i == 1 && g r1 i == 0) with
        | false => rfl
        | true => exact absurd ⟨i, hi, hh⟩ hn
    omega
  simp only [Bool.and_eq_true, beq_iff_eq] at hq
  obtain ⟨c2, hc2, u1, u2⟩ := row hf hg hs hr1 hca hq.1 hq.2
  obtain ⟨r2, hr2, v1, v2⟩ := col hg hf (sameF_symm hs) hr1 hc2 u2 u1
  have hrr : r1 ≠ r2 := fun e => by subst e; omega
  obtain ⟨c1, hc1, w1, w2⟩ : ∃ i, i < C ∧ (f r1 i == 1 && g r1 i == 0) = true ∧ (f r2 i == 1 && g r2 i == 0) = false := by
    refine Classical.byContradiction fun hn => ?_
    have h1 := cnt_less (p := fun x => f r2 x == 1 && g r2 x == 0) (q := fun x => f r1 x == 1 && g r1 x == 0) (N := C) hc2 (fun i hi h => by
      cases hh : (f r2 i == 1 && g r2 i == 0) with
      | true => rfl
      | false => exact absurd ⟨i, hi, h, hh⟩ hn) (by simp [v1, v2]) (by simp [u1])
    have h2 := hmax r2 hr2
    rw [hP, hP] at h2
    omega
  simp only [Bool.and_eq_true, beq_iff_eq] at w1
  obtain ⟨w1, w1'⟩ := w1
  have hcc : c1 ≠ c2 := fun e => by subst e; omega
  have ne_one : ∀ {a b : Int}, a ≠ b → ne1 a b = 1 := fun h => by unfold ne1; rw [if_neg h]
  have ne_zero : ∀ {a b : Int}, a = b → ne1 a b = 0 := fun h => by unfold ne1; rw [if_pos h]
  have hfc := hf.cell r2 c1 hr2 hc1; have hgc := hg.cell r2 c1 hr2 hc1
  rcases hfc with hf0 | hf1
  · left
    obtain ⟨a, b, c, d, h4, hab, hcd⟩ := four_any (f := f) hrr hcc hr1 hr2 hc1 hc2 (by omega) (by omega) (by omega)
    refine ⟨a, b, c, d, h4, ?_⟩
    have k1 : ne1 (f r1 c1) (g r1 c1) = 1 := ne_one (by omega)
    have k2 : ne1 (f r1 c2) (g r1 c2) = 1 := ne_one (by omega)
    have k3 : ne1 (f r2 c2) (g r2 c2) = 1 := ne_one (by omega)
    have l1 : ne1 (1 - f r1 c1) (g r1 c1) = 0 := ne_zero (by omega)
    have l2 : ne1 (1 - f r1 c2) (g r1 c2) = 0 := ne_zero (by omega)
    have l3 : ne1 (1 - f r2 c2) (g r2 c2) = 0 := ne_zero (by omega)
    have l4 := ne1_le (1 - f r2 c1) (g r2 c1)
    have := diff_flip f g (a := a) (b := b) (c := c) (d := d) hR hC (by omega) (by omega) (by omega) (by omega) (by omega) (by omega)
    rcases hab with ⟨rfl, rfl⟩ | ⟨rfl, rfl⟩ <;> rcases hcd with ⟨rfl, rfl⟩ | ⟨rfl, rfl⟩ <;> omega
  · right
    have hg1 : g r2 c1 = 1 := by
      rcases hgc with h | h
      · rw [hf1, h] at w2; simp at w2
      · exact h
    obtain ⟨a, b, c, d, h4, hab, hcd⟩ := four_any (f := g) hrr hcc hr1 hr2 hc1 hc2 (by omega) (by omega) (by omega)
    refine ⟨a, b, c, d, h4, ?_⟩
    have k1 : ne1 (g r1 c1) (f r1 c1) = 1 := ne_one (by omega)
    have k2 : ne1 (g r1 c2) (f r1 c2) = 1 := ne_one (by omega)
    have k3 : ne1 (g r2 c2) (f r2 c2) = 1 := ne_one (by omega)
    have l1 : ne1 (1 - g r1 c1) (f r1 c1) = 0 := ne_zero (by omega)
    have l2 : ne1 (1 - g r1 c2) (f r1 c2) = 0 := ne_zero (by omega)
    have l3 : ne1 (1 - g r2 c2) (f r2 c2) = 0 := ne_zero (by omega)
    have l4 := ne1_le (1 - g r2 c1) (f r2 c1)
    have := diff_flip g f (a := a) (b := b) (c := c) (d := d) hR hC (by omega) (by omega) (by omega) (by omega) (by omega) (by omega)
    rcases hab with ⟨rfl, rfl⟩ | ⟨rfl, rfl⟩ <;> rcases hcd with ⟨rfl, rfl⟩ | ⟨rfl, rfl⟩ <;> omega
theorem swF_of {R C : Nat} {f : Nat → Nat → Int} {a b c d : Nat} (h : four R C f a b c d = true) : swF R C f ⟨a, b, c, d⟩ = true := swF_iff.2 ⟨a, b, c, d, rfl, h⟩
/-- Ryser's theorem, with the number of switches. -/
theorem joined {R C : Nat} : ∀ (n : Nat) (f g : Nat → Nat → Int), diff R C f g ≤ n → Img R C f → Img R C g → SameF R C f g → ∃ p, goM (mkM R C f) p = some (mkM R C g) ∧ 2 * p.length ≤ diff R C f g := by
  intro n
  induction n using Nat.strongRecOn with
  | ind n ih =>
    intro f g hn hf hg hs
    by_cases he : ∀ y x, y < R → x < C → f y x = g y x
    · exact ⟨[], by rw [mkM_congr he]; rfl, by simp⟩
    · obtain ⟨y, x, hy, hx, hne⟩ : ∃ y x, y < R ∧ x < C ∧ f y x ≠ g y x := by
        refine Classical.byContradiction fun hc => he fun y x hy hx => ?_
        exact Classical.byContradiction fun h => hc ⟨y, x, hy, hx, h⟩
      rcases nearer hf hg hs hy hx hne with ⟨a, b, c, d, h4, hd⟩ | ⟨a, b, c, d, h4, hd⟩
      · obtain ⟨p, hp, hl⟩ := ih (n - 2) (by omega) (flipN f a b c d) g (by omega) (flipN_img hf a b c d) hg (sameF_trans (sameF_flip h4 hf) hs)
        refine ⟨⟨a, b, c, d⟩ :: p, ?_, by simp only [List.length_cons]; omega⟩
        simp only [goM]
        rw [swB_mk hf, swF_of h4, flipM_mk hf]
        exact hp
      · have e1 := diff_symm R C f (flipN g a b c d)
        have e2 := diff_symm R C f g
        obtain ⟨p, hp, hl⟩ := ih (n - 2) (by omega) f (flipN g a b c d) (by omega) hf (flipN_img hg a b c d) (sameF_trans hs (sameF_symm (sameF_flip h4 hg)))
        refine ⟨p ++ [⟨a, b, c, d⟩], ?_, by simp only [List.length_append, List.length_singleton]; omega⟩
        have h5 := goM_snoc hp (s := ⟨a, b, c, d⟩) (by rw [swB_mk (flipN_img hg a b c d)]; exact swF_of (four_flip h4))
        rw [flipM_mk (flipN_img hg a b c d)] at h5
        have e3 : flipF (flipN g a b c d) ⟨a, b, c, d⟩ = g := flipN_flip g a b c d
        rw [e3] at h5; exact h5
theorem path_far {R C : Nat} : ∀ (p : List Sw) (f g : Nat → Nat → Int), Img R C f → Img R C g → goM (mkM R C f) p = some (mkM R C g) → diff R C f g ≤ 4 * p.length ∧ SameF R C f g
  | [], f, g, hf, hg, h => by
    have e : mkM R C f = mkM R C g := Option.some.inj h
    have ec : ∀ y x, y < R → x < C → f y x = g y x := fun y x hy hx => by rw [← cell_mk R C f hy hx, e, cell_mk R C g hy hx]
    constructor
    · have : diff R C f g = 0 := cnt_none fun i _ => by
        have : imgF R C f i = imgF R C g i := by
          unfold imgF
          split
          · rename_i hh; exact ec _ _ hh.1 hh.2
          · rfl
        rw [this]; simp
      omega
    · exact ⟨fun y hy => cnt_congr fun x hx => by rw [ec y x hy hx], fun x hx => cnt_congr fun y hy => by rw [ec y x hy hx]⟩
  | s :: p, f, g, hf, hg, h => by
    simp only [goM] at h
    rw [swB_mk hf, flipM_mk hf] at h
    split at h
    · rename_i hs
      obtain ⟨a, b, c, d, rfl, h4⟩ := swF_iff.1 hs
      obtain ⟨k1, k2, k3, k4, -⟩ := four_iff.1 h4
      obtain ⟨h5, h6⟩ := path_far p (flipN f a b c d) g (flipN_img hf a b c d) hg h
      have h7 := diff_near f g hf.r2 hf.c2 (a := a) (b := b) (c := c) (d := d) (by omega) (by omega) (by omega) k3 (by omega) k4
      exact ⟨by simp only [List.length_cons]; omega, sameF_trans (sameF_symm (sameF_flip h4 hf)) h6⟩
    · cases h
end Go.Proofs.YtjnnoabaepmcnaaGreat
/-
  The exact law on SumsOk, walked.
-/
namespace Go.Proofs.YtjnnoabaepmcnaaGreat
open Go.RowKit
set_option linter.unusedVariables false

/-- What 'open_ints' hands over. -/
theorem inRow_of {w : World} {x : Addr} {l c : Nat} {zs : List Int} (hl : l ≤ c) (hm : c ≤ maxLen) (hz : zs.length = c) (hcell : ∀ i, i < zs.length → w.cell? (x.add i) = some (.int .i64 (zs.getD i 0))) : InRow w (.slice (some x) l c) (zs.take l) := by
  have hlen : (zs.take l).length = l := by rw [List.length_take]; omega
  refine ⟨some x, c, by rw [hlen], by omega, ?_⟩
  by_cases h0 : l = 0
  · exact .inl (by omega)
  · refine .inr ?_
    obtain ⟨g, o, spot⟩ := x
    have hc := hcell 0 (by omega)
    have hspot : spot = none := by simpa [Addr.add] using World.cell?_spot hc
    subst hspot
    refine ⟨g, o, rfl, by have := World.block_lt_of_cell? w _ hc; simpa [Addr.add] using this, fun i hi => ?_⟩
    have := hcell i (by omega)
    rw [addr_add] at this
    rw [this, List.getElem_take, List.getD_eq_getElem?_getD, List.getElem?_eq_getElem (by omega)]; rfl

end Go.Proofs.YtjnnoabaepmcnaaGreat
/-
  The first of the greatest, pure.
-/
namespace Go.Proofs.YtjnnoabaepmcnaaGreat

/-- One more: the first one of the greatest value so far, and its value. -/
def bestS {M : Type} (vf : M → Int) (s : Option (M × Int)) (m : M) : Option (M × Int) :=
  match s with
  | none => some (m, vf m)
  | some p => if p.2 < vf m then some (m, vf m) else some p
def bestF {M : Type} (vf : M → Int) (L : List M) : Option (M × Int) := L.foldl (bestS vf) none
theorem bestF_snoc {M : Type} (vf : M → Int) (pre : List M) (m : M) : bestF vf (pre ++ [m]) = bestS vf (bestF vf pre) m := by simp [bestF, List.foldl_append]
theorem bestS_none {M : Type} (vf : M → Int) (m : M) : bestS vf none m = some (m, vf m) := rfl
theorem bestS_more {M : Type} {vf : M → Int} {p : M × Int} {m : M} (h : p.2 < vf m) : bestS vf (some p) m = some (m, vf m) := by simp [bestS, h]
theorem bestS_less {M : Type} {vf : M → Int} {p : M × Int} {m : M} (h : ¬ p.2 < vf m) : bestS vf (some p) m = some p := by simp [bestS, h]
/-- It is one of them, none is greater. -/
theorem bestF_spec {M : Type} (vf : M → Int) (L : List M) : match bestF vf L with
    | none => L = []
    | some p => p.1 ∈ L ∧ p.2 = vf p.1 ∧ ∀ m ∈ L, vf m ≤ p.2 := by
  have key : ∀ n (L : List M), L.length = n → match bestF vf L with
    | none => L = []
    | some p => p.1 ∈ L ∧ p.2 = vf p.1 ∧ ∀ m ∈ L, vf m ≤ p.2 := by
    intro n
    induction n with
    | zero => intro L h; obtain rfl := List.eq_nil_of_length_eq_zero h; rfl
    | succ n ih =>
      intro L h
      have hne : L ≠ [] := by intro e; subst e; simp at h
      obtain ⟨pre, m, rfl⟩ : ∃ pre m, L = pre ++ [m] := ⟨L.dropLast, L.getLast hne, (List.dropLast_concat_getLast hne).symm⟩
      have h1 := ih pre (by rw [List.length_append, List.length_singleton] at h; omega)
      rw [bestF_snoc]
      cases e : bestF vf pre with
      | none =>
        rw [e] at h1
        simp only at h1
        subst h1
        rw [bestS_none]
        exact ⟨by simp, rfl, fun x hx => by simp at hx; subst hx; exact Int.le_refl _⟩
      | some p =>
        rw [e] at h1
        obtain ⟨g1, g2, g3⟩ := h1
        by_cases hlt : p.2 < vf m
        · rw [bestS_more hlt]
          refine ⟨by simp, rfl, fun x hx => ?_⟩
          rw [List.mem_append, List.mem_singleton] at hx
          rcases hx with hx | rfl
          · have := g3 x hx; show vf x ≤ vf m; omega
          · exact Int.le_refl _
        · rw [bestS_less hlt]
          refine ⟨by simp [g1], g2, fun x hx => ?_⟩
          rw [List.mem_append, List.mem_singleton] at hx
          rcases hx with hx | rfl
          · exact g3 x hx
          · omega
  exact key _ L rfl
theorem bestF_some {M : Type} {vf : M → Int} {L : List M} (h : L ≠ []) : ∃ p, bestF vf L = some p ∧ p.1 ∈ L ∧ p.2 = vf p.1 ∧ ∀ m ∈ L, vf m ≤ p.2 := by
  have := bestF_spec vf L
  cases e : bestF vf L with
  | none => rw [e] at this; exact absurd this h
  | some p => rw [e] at this; exact ⟨p, rfl, this⟩
end Go.Proofs.YtjnnoabaepmcnaaGreat
/-
  Rows as bits: OnesCount, rowOfBits, rowsWith.
-/
namespace Go.Proofs.YtjnnoabaepmcnaaGreat
open Go.RowKit

/-- How many bits of n are set, of the lowest five. -/
def pop5 (n : Nat) : Nat := n % 2 + n / 2 % 2 + n / 4 % 2 + n / 8 % 2 + n / 16 % 2
set_option maxHeartbeats 4000000 in
theorem ones64_any (n : Nat) (w : World) (h : n < 32) : Calls Tryz.prog 96 #[.int .u64 n] w fun e w' => e = .returned (.int .i64 (pop5 n : Nat)) ∧ w = w' := by
  go_enter Tryz.func96, Tryz.ntmps96
  go_wp2
  go_ret
  refine ⟨?_, rfl⟩
  simp only [Array.getD_eq_getD_getElem?]
  refine ret_int ?_
  revert n
  decide +kernel
theorem ones_any (n : Nat) (w : World) (h : n < 32) : Calls Tryz.prog 89 #[.int .u64 n] w fun e w' => e = .returned (.int .i64 (pop5 n : Nat)) ∧ w = w' := by
  go_enter Tryz.func89, Tryz.ntmps89
  go_wp2_with ((with_reducible refine (ones64_any n _ h).mono ?_); rintro e w' ⟨rfl, rfl⟩)
  go_ret
  exact ⟨rfl, rfl⟩
/-- The bits of n, the highest of C first. -/
def bitsRow (C n : Nat) : List Int := tabL C fun x => ((n / 2 ^ (C - 1 - x) % 2 : Nat) : Int)
theorem bit_at : ∀ n : Nat, n < 32 → ∀ e : Nat, e < 5 → wrap64 (bits BinOp.and IntKind.u64 ((n : Int) / 2 ^ e) 1) = ((n / 2 ^ e % 2 : Nat) : Int) := by decide +kernel
set_option maxHeartbeats 400000 in
theorem rowOfBits_any (n C : Nat) (w : World) (hC : 1 ≤ C ∧ C ≤ 5) (h : n < 32) :
    Calls Tryz.prog 90 #[.int .u64 n, .int .i64 C] w (IntsRes (bitsRow C n) w) := by
  obtain ⟨hC1, hC2⟩ := hC
  have HBI := hide fun (e : Nat) (he : e < 5) => bit_at n h e he
  go_enter Tryz.func90, Tryz.ntmps90
  go_wp2_with (at_make; refine wpList_new w.heap.size C (.int .i64 0) rfl _ _ rfl Tryz.underlying23 Tryz.infoInt rfl (by decide) rfl rfl (by omega) (Nat.le_refl _) ?_; intro w1 hown1 hb1 hg1)
  have HO := hide hown1; have HB := hide hb1
  clear hown1 hb1 hg1
  go_wp2
  go_loopw [11] (fun i w' => ∃ k : Nat, k ≤ C ∧ i = .int .i64 k ∧ w'.ownsRow w.heap.size 3 1 (.slice (some ⟨w.heap.size, 0, none⟩) C C) C (ints (tabL C fun x => if x < k then ((n / 2 ^ (C - 1 - x) % 2 : Nat) : Int) else 0)) ∧ Below w.heap.size w w') (fun i _ => C - (intOf i).toNat)
  case atStart => exact ⟨0, Nat.zero_le _, rfl, by rw [tabL_zero] at HO; exact HO.out, HB.out⟩
  case round =>
    clear HO HB
    obtain ⟨k, hk, rfl, hown, hb⟩ := hrel
    have HO := hide hown; have HB := hide hb
    clear hown hb
    by_cases hlt : k < C
    · have hc1 := cell_held HO.out hlt
      rw [tabL_held hlt, if_neg (Nat.lt_irrefl k)] at hc1
      have hf := HO.out.frozenAt k
      have HS := HO.out.stored k (.int .i64 (n / 2 ^ (C - 1 - k) % 2 : Nat))
      rw [ints_set, tabL_set] at HS
      rw [show (tabL C fun t => if t = k then ((n / 2 ^ (C - 1 - k) % 2 : Nat) : Int) else if t < k then ((n / 2 ^ (C - 1 - t) % 2 : Nat) : Int) else 0) = tabL C fun x => if x < k + 1 then ((n / 2 ^ (C - 1 - x) % 2 : Nat) : Int) else 0 from tabL_congr fun i _ => by
        by_cases e : i = k
        · subst e; rw [if_pos rfl, if_pos (Nat.lt_succ_self _)]
        · rw [if_neg e]
          by_cases e' : i < k
          · rw [if_pos e', if_pos (by omega)]
          · rw [if_neg e', if_neg (by omega)], ← HBI.out (C - 1 - k) (by omega)] at HS
      have HS := hide HS
      go_wp2
      go_roundw
      case rel => exact ⟨k + 1, by omega, by go_num, HS.out.1, HB.out.setCell (Nat.le_refl _) _⟩
      case measure => simp [intOf]; omega
    · obtain rfl : k = C := by omega
      have e3 : (tabL k fun x => if x < k then ((n / 2 ^ (k - 1 - x) % 2 : Nat) : Int) else 0) = bitsRow k n := tabL_congr fun i hi => by rw [if_pos hi]
      rw [e3] at HO
      go_wp2
      go_ret
      exact ⟨_, rfl, by rw [bitsRow, tabL_len]; exact HO.out, HB.out⟩
/-- The rows among the first N numbers. -/
def bitRows (C : Nat) (s : Int) (N : Nat) : List (List Int) := ((List.range N).filter fun n => decide (((pop5 n : Nat) : Int) = s)).map (bitsRow C)
theorem bitRows_succ (C : Nat) (s : Int) (N : Nat) : bitRows C s (N + 1) = bitRows C s N ++ if ((pop5 N : Nat) : Int) = s then [bitsRow C N] else [] := by
  unfold bitRows
  rw [List.range_succ, List.filter_append, List.map_append]
  congr 1
  by_cases h : ((pop5 N : Nat) : Int) = s
  · rw [if_pos h]; simp [h]
  · rw [if_neg h]; simp [h]
theorem bitRows_len (C : Nat) (s : Int) (N : Nat) : (bitRows C s N).length ≤ N := by
  unfold bitRows
  rw [List.length_map]
  exact Nat.le_trans (List.length_filter_le _ _) (by simp)
theorem bitRows_yes {C : Nat} {s : Int} {N : Nat} (h : ((pop5 N : Nat) : Int) = s) : bitRows C s (N + 1) = bitRows C s N ++ [bitsRow C N] := by rw [bitRows_succ, if_pos h]
theorem bitRows_no {C : Nat} {s : Int} {N : Nat} (h : ¬ ((pop5 N : Nat) : Int) = s) : bitRows C s (N + 1) = bitRows C s N := by rw [bitRows_succ, if_neg h, List.append_nil]
theorem bitsRow_len (C n : Nat) : (bitsRow C n).length = C := tabL_len _ _
set_option maxHeartbeats 1000000 in
theorem rowsWith_any (s : Int) (C : Nat) (w : World) (hC : 1 ≤ C ∧ C ≤ 5) :
    Calls Tryz.prog 80 #[.int .i64 s, .int .i64 C] w (MatRes (bitRows C s (2 ^ C)) w) := by
  obtain ⟨hC1, hC2⟩ := hC
  obtain ⟨N, hN⟩ : ∃ N, N = 2 ^ C := ⟨_, rfl⟩
  have hN5 : N ≤ 32 := by rw [hN]; exact Nat.le_trans (Nat.pow_le_pow_right (by decide) hC2) (by decide)
  have hW : IntKind.u64.wrap (2 ^ C) = (N : Int) := by
    rw [show ((2 : Int) ^ C) = ((2 ^ C : Nat) : Int) by simp, ← hN]
    have : ∀ n : Nat, n ≤ 32 → IntKind.u64.wrap (n : Int) = n := by decide
    exact this N hN5
  rw [← hN]
  have HN := hide hN; have HN5 := hide hN5
  have HC := hide (And.intro hC1 hC2)
  clear hN
  go_enter Tryz.func80, Tryz.ntmps80
  go_wp2
  go_loopw [5, 9] (fun u i w' => ∃ (k : Nat) (v : Value), k ≤ N ∧ i = .int .u64 k ∧ v = u ∧ OwnMat w' w.heap.size w'.heap.size v (bitRows C s k) ∧ Below w.heap.size w w') (fun _ i _ => N - (intOf i).toNat)
  case atStart => exact ⟨0, _, Nat.zero_le _, rfl, rfl, ownMat_nil _ _ _, Below.refl _ _⟩
  case round =>
    obtain ⟨k, v, hk, rfl, rfl, hown, hb⟩ := hrel
    have HO := hide hown; have HB := hide hb
    clear hown hb hW
    by_cases hlt : k < N
    · have hk32 : k < 32 := by have := HN5.out; omega
      have hsz := HB.out.size
      have HY := hide (fun h => bitRows_yes (C := C) (s := s) (N := k) h)
      have HZ := hide (fun h => bitRows_no (C := C) (s := s) (N := k) h)
      have HONE := hide (ones_any k wr hk32)
      obtain ⟨q, hq⟩ : ∃ q, q = ((pop5 k : Nat) : Int) := ⟨_, rfl⟩
      rw [← hq] at HY HZ HONE
      clear hq
      by_cases hqs : q = s
      · subst hqs
        have HY2 := hide (HY.out rfl)
        have HLEN := hide (bitRows_len C q k)
        clear HY HZ
        have hlen := HLEN.out
        obtain ⟨vs, hv, hvh, hvr, hva⟩ := HO.out
        have HV := hide hv; have HVR := hide hvr; have HVA := hide hva
        clear hv hvh hvr hva
        go_wp2_with (first | (go_at_call 89; refine HONE.out.mono ?_; rintro e w4 ⟨rfl, rfl⟩) | (go_at_call 90; refine (rowOfBits_any k C _ HC.out hk32).mono ?_; rintro e w5 ⟨ur, rfl, hur, hb5⟩; rw [bitsRow_len] at hur; obtain ⟨ra, rc, rfl⟩ := own_slice hur; have HU := hide hur; have HB5 := hide hb5; have hs5 := hb5.size; have HV5 := hide (own_below HV.out hb5); clear hur hb5) | (at_builtin; refine wpList_push HV5.out (.slice ra C rc) (.slice none 0 0) rfl _ _ rfl Tryz.underlying22 Tryz.infoInts rfl (by decide) rfl rfl rfl (by omega) (by omega) ?_; intro v' w6 hown1 hb1 hg1))
        go_roundw
        case rel =>
          have hs6 := hb1.size
          have hp := ownMat_push (w := w5) (r := bitsRow C k) (hi := wr.heap.size) (hi' := w6.heap.size) (fun i h => ⟨own_below (HVR.out i h).1 HB5.out, (HVR.out i h).2⟩) HVA.out HV5.out (by rw [bitsRow_len]; exact HU.out) hsz (by omega) (by omega) hg1 hown1 (fun k e => (hown1.lt k e).2)
          rw [← HY2.out] at hp
          exact ⟨k + 1, _, by omega, by go_num, rfl, hp, (HB.out.trans (HB5.out.mono hsz)).trans (hb1.mono (by have := HB5.out.size; omega))⟩
        case measure => simp [intOf]; omega
      · have HZ2 := hide (HZ.out hqs)
        clear HY HZ
        go_wp2_with (go_at_call 89; refine HONE.out.mono ?_; rintro e w4 ⟨rfl, rfl⟩)
        go_roundw
        case rel => exact ⟨k + 1, _, by omega, by go_num, rfl, by rw [HZ2.out]; exact HO.out, HB.out⟩
        case measure => simp [intOf]; omega
    · obtain rfl : k = N := by omega
      go_wp2
      go_ret
      exact ⟨_, rfl, HO.out, HB.out⟩
end Go.Proofs.YtjnnoabaepmcnaaGreat
