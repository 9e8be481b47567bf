/-
  Texts of this claim, one behind the other: Free, Swap, Val, Bfs, Reach, White.
-/
import Derived.Test.YtbogeghoekmbhaaGreatPackE
import Derived.Test.YtbogeghoekmbhaaGreatPackC
import Derived.Test.YtbogeghoekmbhaaGreatPackA
/-
  freeWhere: the cells in which another image differs become free.
-/
namespace Go.Proofs.YtbogeghoekmbhaaGreat
open Go.RowKit

def frF (f g : Nat → Nat → Int) (y x : Nat) : Int := if f y x = g y x then f y x else -1
/-- .. up to row y, cell x. -/
def frP (f g : Nat → Nat → Int) (y x a b : Nat) : Int := if a < y ∨ (a = y ∧ b < x) then frF f g a b else f a b
theorem frP_zero (f g : Nat → Nat → Int) : frP f g 0 0 = f := by
  funext a b; unfold frP; rw [if_neg (by omega)]
theorem frP_row {R C : Nat} (f g : Nat → Nat → Int) (y : Nat) : mkM R C (frP f g y C) = mkM R C (frP f g (y + 1) 0) := by
  apply List.ext_getElem
  · simp [mkM]
  · intro a h1 h2
    rw [mkM_at, mkM_at]
    apply List.ext_getElem
    · simp [rowF_len]
    · intro b h3 h4
      rw [rowF_len] at h3
      rw [rowF_at, rowF_at]
      unfold frP
      by_cases h : a < y ∨ (a = y ∧ b < C)
      · rw [if_pos h, if_pos (by omega)]
      · rw [if_neg h, if_neg (by omega)]
theorem frP_all {R C : Nat} (f g : Nat → Nat → Int) : mkM R C (frP f g R 0) = mkM R C (frF f g) := by
  apply List.ext_getElem
  · simp [mkM]
  · intro a h1 h2
    rw [mkM_at, mkM_at]
    apply List.ext_getElem
    · simp [rowF_len]
    · intro b h3 h4
      rw [mkM_len] at h1
      rw [rowF_at, rowF_at, frP, if_pos (.inl h1)]
theorem frP_same {f g : Nat → Nat → Int} {y x : Nat} (h : f y x = g y x) : frP f g y x = frP f g y (x + 1) := by
  funext a b; unfold frP
  by_cases e : a = y ∧ b = x
  · obtain ⟨rfl, rfl⟩ := e
    rw [if_neg (by omega), if_pos (by omega), frF, if_pos h]
  · by_cases h1 : a < y ∨ (a = y ∧ b < x)
    · rw [if_pos h1, if_pos (by omega)]
    · rw [if_neg h1, if_neg (by omega)]
theorem frP_put {f g : Nat → Nat → Int} {y x : Nat} (h : ¬ f y x = g y x) : (fun a b => if a = y ∧ b = x then -1 else frP f g y x a b) = frP f g y (x + 1) := by
  funext a b; unfold frP
  by_cases e : a = y ∧ b = x
  · rw [if_pos e, if_pos (by omega)]
    obtain ⟨rfl, rfl⟩ := e
    rw [frF, if_neg h]
  · rw [if_neg e]
    by_cases h1 : a < y ∨ (a = y ∧ b < x)
    · rw [if_pos h1, if_pos (by omega)]
    · rw [if_neg h1, if_neg (by omega)]
theorem frP_at (f g : Nat → Nat → Int) (y x : Nat) : frP f g y x y x = f y x := by unfold frP; rw [if_neg (by omega)]

set_option maxRecDepth 100000 in
set_option maxHeartbeats 1000000 in
theorem freeWhere_any (v v2 : Value) (R C lo hi lo2 hi2 : Nat) (f g : Nat → Nat → Int) (w : World) (hR : 1 ≤ R ∧ R ≤ 5) (hC : 1 ≤ C ∧ C ≤ 5) (hv : OwnMat w lo hi v (mkM R C f)) (hm : OwnMat w lo2 hi2 v2 (mkM R C g)) (hd : hi ≤ lo2 ∨ hi2 ≤ lo) :
    Calls Tryz.prog 44 #[v, v2] w fun e w' => (∃ u, e = .returned u) ∧ OwnMat w' lo hi v (mkM R C (frF f g)) ∧ Within lo hi w w' := by
  obtain ⟨ga, ca, rfl⟩ := ownMat_some hv (by rw [mkM_len]; omega)
  obtain ⟨gb, cb, rfl⟩ := ownMat_some hm (by rw [mkM_len]; omega)
  rw [mkM_len] at hv hm ⊢
  rw [mkM_len]
  obtain ⟨hR1, hR5⟩ := hR
  obtain ⟨hC1, hC5⟩ := hC
  have HV := hide (show OwnMat w lo hi (.slice (some ⟨ga, 0, none⟩) R ca) (mkM R C (frP f g 0 0)) by rw [frP_zero]; exact hv)
  have HM := hide hm; have HD := hide hd
  clear hv hm hd
  go_enter Tryz.func44, Tryz.ntmps44
  go_wp2
  go_loopw [10] (fun i w' => ∃ y : Nat, y ≤ R ∧ i = .int .i64 y ∧ OwnMat w' lo hi (.slice (some ⟨ga, 0, none⟩) R ca) (mkM R C (frP f g y 0)) ∧ OwnMat w' lo2 hi2 (.slice (some ⟨gb, 0, none⟩) R cb) (mkM R C g) ∧ Within lo hi w w') (fun i _ => R - (intOf i).toNat)
  case atStart => exact ⟨0, Nat.zero_le _, rfl, HV.out, HM.out, within_refl _ _ _⟩
  case round =>
    obtain ⟨y, hy, rfl, hv, hm, hw⟩ := hrel
    have HV1 := hide hv; have HM1 := hide hm; have HW1 := hide hw
    clear hv hm hw
    by_cases hlt : y < R
    · obtain ⟨g2, c2, hrow2, -, -, -, -, -⟩ := ownMat_cell HM1.out y 0 hlt (by omega)
      have HR2 := hide hrow2
      go_wp2
      clear hrow2
      go_loopw [17] (fun i w' => ∃ x : Nat, x ≤ C ∧ i = .int .i64 x ∧ OwnMat w' lo hi (.slice (some ⟨ga, 0, none⟩) R ca) (mkM R C (frP f g y x)) ∧ (OwnMat w' lo2 hi2 (.slice (some ⟨gb, 0, none⟩) R cb) (mkM R C g) ∧ w'.cell? ⟨gb, y, none⟩ = some (.slice (some ⟨g2, 0, none⟩) C c2)) ∧ Within lo hi w w') (fun i _ => C - (intOf i).toNat)
      case atStart => exact ⟨0, Nat.zero_le _, rfl, HV1.out, ⟨HM1.out, HR2.out⟩, HW1.out⟩
      case round =>
        obtain ⟨x, hx, rfl, hv, hm, hw⟩ := hrel
        by_cases hlx : x < C
        · obtain ⟨g1, c1, hrow1, hcl1, hfr1, hlo1, hhi1, hset1⟩ := ownMat_cell hv y x hlt hlx
          obtain ⟨g3, c3, hrow3, hcl3, -, hlo3, hhi3, -⟩ := ownMat_cell hm.1 y x hlt hlx
          obtain ⟨rfl, rfl⟩ : g3 = g2 ∧ c3 = c2 := by have := hm.2; rw [hrow3] at this; cases this; exact ⟨rfl, rfl⟩
          rw [frP_at] at hcl1
          have HV2 := hide hv; have HM2 := hide hm; have HW2 := hide hw; have HSET := hide hset1
          obtain ⟨p, hp⟩ : ∃ p, p = f y x := ⟨_, rfl⟩
          obtain ⟨q, hq⟩ : ∃ q, q = g y x := ⟨_, rfl⟩
          have HP := hide hp; have HQ := hide hq
          rw [← hp] at hcl1
          rw [← hq] at hcl3
          clear hv hm hw hset1 hp hq
          by_cases e : p = q
          · have hne : (p != q) = false := by rw [e]; simp
            have HE := hide e
            clear e
            go_wp2
            go_roundw
            case rel => exact ⟨x + 1, by omega, by go_num, by rw [← frP_same (by rw [← HP.out, ← HQ.out]; exact HE.out)]; exact HV2.out, HM2.out, HW2.out⟩
            case measure => simp [intOf]; omega
          · have hne : (p != q) = true := bne_iff_ne.2 e
            have HE := hide e
            clear e
            go_wp2
            go_roundw
            case rel =>
              have hwi : Within lo hi wr (wr.setCell ⟨g1, x, none⟩ (.int .i64 (-1))) := ⟨rfl, rfl, rfl, by simp [World.setCell], fun k _ ho => Below.heap_setCell _ _ _ _ (show k ≠ g1 by omega)⟩
              refine ⟨x + 1, by omega, by go_num, by rw [← frP_put (by rw [← HP.out, ← HQ.out]; exact HE.out)]; exact HSET.out (-1), ⟨ownMat_within HM2.out.1 hwi (by have := HD.out; omega), ?_⟩, within_trans HW2.out hwi⟩
              have hgb : gb < lo ∨ hi ≤ gb := by
                obtain ⟨us, h1, h2, -⟩ := HM2.out.1
                have h3 := (h1.lt gb rfl).1
                have h4 := h2 gb rfl
                have := HD.out; omega
              exact (World.cell?_of_block (Below.heap_setCell _ _ _ _ (show gb ≠ g1 by omega))).trans HM2.out.2
            case measure => simp [intOf]; omega
        · obtain rfl : x = C := by omega
          have HV2 := hide hv; have HM2 := hide hm; have HW2 := hide hw
          clear hv hm hw
          go_wp2
          go_roundw
          case rel => exact ⟨y + 1, by omega, by go_num, by rw [← frP_row]; exact HV2.out, HM2.out.1, HW2.out⟩
          case measure => simp [intOf]; omega
    · obtain rfl : y = R := by omega
      go_wp2
      go_end0
      exact ⟨⟨_, rfl⟩, by rw [← frP_all]; exact HV1.out, HW1.out⟩
end Go.Proofs.YtbogeghoekmbhaaGreat
/-
  Switches, pure: the four cells, an image after a switch, lists of switches in order, paths.
-/
namespace Go.Proofs.YtbogeghoekmbhaaGreat

/-- A switch: two rows and two columns. -/
structure Sw where
  y1 : Int
  y2 : Int
  x1 : Int
  x2 : Int
instance : DecidableEq Sw := fun a b =>
  if h : a.y1 = b.y1 ∧ a.y2 = b.y2 ∧ a.x1 = b.x1 ∧ a.x2 = b.x2 then isTrue (by obtain ⟨a1, a2, a3, a4⟩ := a; obtain ⟨b1, b2, b3, b4⟩ := b; simp only at h; obtain ⟨rfl, rfl, rfl, rfl⟩ := h; rfl)
  else isFalse fun e => h (by rw [e]; exact ⟨rfl, rfl, rfl, rfl⟩)
def zeroSw : Sw := ⟨0, 0, 0, 0⟩
/-- The cell of a list. -/
def cellM (m : List (List Int)) (y x : Nat) : Int := (m.getD y []).getD x 0
theorem cell_mk (R C : Nat) (f : Nat → Nat → Int) {y x : Nat} (hy : y < R) (hx : x < C) : cellM (mkM R C f) y x = f y x := by
  simp [cellM, mkM, rowF, hy, hx]
theorem mk_cell (R C : Nat) (f : Nat → Nat → Int) : mkM R C (cellM (mkM R C f)) = mkM R C f := mkM_congr fun _ _ hy hx => cell_mk R C f hy hx
/-- The four cells of a switch, by number. -/
def four (R C : Nat) (f : Nat → Nat → Int) (a b c d : Nat) : Bool :=
  decide (a < b) && decide (c < d) && decide (b < R) && decide (d < C) && decide (f b d = f a c) && decide (f a d = 1 - f a c) && decide (f b c = 1 - f a c)
theorem four_iff {R C : Nat} {f : Nat → Nat → Int} {a b c d : Nat} : four R C f a b c d = true ↔ a < b ∧ c < d ∧ b < R ∧ d < C ∧ f b d = f a c ∧ f a d = 1 - f a c ∧ f b c = 1 - f a c := by
  simp [four, Bool.and_eq_true, and_assoc]
/-- A switch of an image. -/
def swF (R C : Nat) (f : Nat → Nat → Int) (s : Sw) : Bool :=
  decide (0 ≤ s.y1) && decide (0 ≤ s.x1) && decide (s.y1 < s.y2) && decide (s.x1 < s.x2) && four R C f s.y1.toNat s.y2.toNat s.x1.toNat s.x2.toNat
theorem swF_iff {R C : Nat} {f : Nat → Nat → Int} {s : Sw} : swF R C f s = true ↔ ∃ a b c d : Nat, s = ⟨a, b, c, d⟩ ∧ four R C f a b c d = true := by
  constructor
  · intro h
    simp only [swF, Bool.and_eq_true, decide_eq_true_eq] at h
    obtain ⟨⟨⟨⟨h1, h2⟩, h3⟩, h4⟩, h5⟩ := h
    refine ⟨_, _, _, _, ?_, h5⟩
    obtain ⟨y1, y2, x1, x2⟩ := s
    simp only at h1 h2 h3 h4 ⊢
    rw [Int.toNat_of_nonneg h1, Int.toNat_of_nonneg (by omega), Int.toNat_of_nonneg h2, Int.toNat_of_nonneg (by omega)]
  · rintro ⟨a, b, c, d, rfl, h⟩
    have := four_iff.1 h
    simp only [swF, Bool.and_eq_true, decide_eq_true_eq]
    exact ⟨⟨⟨⟨by omega, by omega⟩, by omega⟩, by omega⟩, by simpa using h⟩
theorem four_congr {R C : Nat} {f g : Nat → Nat → Int} (h : ∀ y x, y < R → x < C → f y x = g y x) (a b c d : Nat) : four R C f a b c d = four R C g a b c d := by
  rw [Bool.eq_iff_iff, four_iff, four_iff]
  constructor
  · rintro ⟨h1, h2, h3, h4, h5⟩
    rw [h b d h3 h4, h a c (by omega) (by omega), h a d (by omega) h4, h b c h3 (by omega)] at h5
    exact ⟨h1, h2, h3, h4, h5⟩
  · rintro ⟨h1, h2, h3, h4, h5⟩
    rw [← h b d h3 h4, ← h a c (by omega) (by omega), ← h a d (by omega) h4, ← h b c h3 (by omega)] at h5
    exact ⟨h1, h2, h3, h4, h5⟩
theorem swF_congr {R C : Nat} {f g : Nat → Nat → Int} (h : ∀ y x, y < R → x < C → f y x = g y x) (s : Sw) : swF R C f s = swF R C g s := by
  unfold swF; rw [four_congr h]
/-- The cells after a switch. -/
def flipN (f : Nat → Nat → Int) (a b c d : Nat) (y x : Nat) : Int := if (y = a ∨ y = b) ∧ (x = c ∨ x = d) then 1 - f y x else f y x
def flipF (f : Nat → Nat → Int) (s : Sw) : Nat → Nat → Int := flipN f s.y1.toNat s.y2.toNat s.x1.toNat s.x2.toNat
theorem flipN_img {R C : Nat} {f : Nat → Nat → Int} (h : Img R C f) (a b c d : Nat) : Img R C (flipN f a b c d) :=
  ⟨h.r1, h.r2, h.c1, h.c2, fun y x hy hx => by unfold flipN; split <;> rcases h.cell y x hy hx with e | e <;> simp [e]⟩
theorem flipF_img {R C : Nat} {f : Nat → Nat → Int} (h : Img R C f) (s : Sw) : Img R C (flipF f s) := flipN_img h _ _ _ _
theorem flipN_flip (f : Nat → Nat → Int) (a b c d : Nat) : flipN (flipN f a b c d) a b c d = f := by
  funext y x
  unfold flipN
  by_cases h : (y = a ∨ y = b) ∧ (x = c ∨ x = d)
  · rw [if_pos h, if_pos h]; omega
  · rw [if_neg h, if_neg h]
theorem flipF_flip (f : Nat → Nat → Int) (s : Sw) : flipF (flipF f s) s = f := flipN_flip f _ _ _ _
theorem flipN_congr {R C : Nat} {f g : Nat → Nat → Int} (h : ∀ y x, y < R → x < C → f y x = g y x) (a b c d : Nat) : ∀ y x, y < R → x < C → flipN f a b c d y x = flipN g a b c d y x := by
  intro y x hy hx; unfold flipN; rw [h y x hy hx]
theorem four_flip {R C : Nat} {f : Nat → Nat → Int} {a b c d : Nat} (h : four R C f a b c d = true) : four R C (flipN f a b c d) a b c d = true := by
  have := four_iff.1 h
  refine four_iff.2 ⟨this.1, this.2.1, this.2.2.1, this.2.2.2.1, ?_⟩
  unfold flipN
  simp
  omega
theorem swF_flip {R C : Nat} {f : Nat → Nat → Int} {s : Sw} (h : swF R C f s = true) : swF R C (flipF f s) s = true := by
  obtain ⟨a, b, c, d, rfl, h'⟩ := swF_iff.1 h
  exact swF_iff.2 ⟨a, b, c, d, rfl, by simpa [flipF] using four_flip h'⟩

/-- The same of lists. -/
def swB (m : List (List Int)) (s : Sw) : Bool := swF m.length (widthM m) (cellM m) s
def flipM (m : List (List Int)) (s : Sw) : List (List Int) := mkM m.length (widthM m) (flipF (cellM m) s)
theorem swB_mk {R C : Nat} {f : Nat → Nat → Int} (h : Img R C f) (s : Sw) : swB (mkM R C f) s = swF R C f s := by
  have := h.r1
  unfold swB
  rw [mkM_len, width_mkM (by omega)]
  exact swF_congr (fun y x hy hx => cell_mk R C f hy hx) s
theorem flipM_mk {R C : Nat} {f : Nat → Nat → Int} (h : Img R C f) (s : Sw) : flipM (mkM R C f) s = mkM R C (flipF f s) := by
  have := h.r1
  unfold flipM
  rw [mkM_len, width_mkM (by omega)]
  exact mkM_congr (flipN_congr (fun y x hy hx => cell_mk R C f hy hx) _ _ _ _)

/-- A node: a list that is a valid image of this size. -/
def Node (R C : Nat) (m : List (List Int)) : Prop := ∃ f, m = mkM R C f ∧ Img R C f
theorem node_flip {R C : Nat} {m : List (List Int)} (h : Node R C m) (s : Sw) : Node R C (flipM m s) := by
  obtain ⟨f, rfl, h⟩ := h
  exact ⟨_, flipM_mk h s, flipF_img h s⟩
theorem flip_back {R C : Nat} {m : List (List Int)} (h : Node R C m) (s : Sw) : flipM (flipM m s) s = m := by
  obtain ⟨f, rfl, h⟩ := h
  rw [flipM_mk h, flipM_mk (flipF_img h s), flipF_flip]
theorem swB_back {R C : Nat} {m : List (List Int)} (h : Node R C m) {s : Sw} (hs : swB m s = true) : swB (flipM m s) s = true := by
  obtain ⟨f, rfl, h⟩ := h
  rw [swB_mk h] at hs
  rw [flipM_mk h, swB_mk (flipF_img h s)]
  exact swF_flip hs

/-- Switches one after the other. -/
def goM : List (List Int) → List Sw → Option (List (List Int))
  | m, [] => some m
  | m, s :: p => if swB m s then goM (flipM m s) p else none
theorem goM_append (m : List (List Int)) (p q : List Sw) : goM m (p ++ q) = (goM m p).bind fun t => goM t q := by
  induction p generalizing m with
  | nil => rfl
  | cons s p ih =>
    simp only [List.cons_append, goM]
    split
    · exact ih _
    · rfl
theorem goM_snoc {m t : List (List Int)} {p : List Sw} {s : Sw} (h : goM m p = some t) (hs : swB t s = true) : goM m (p ++ [s]) = some (flipM t s) := by
  rw [goM_append, h]
  simp [goM, hs]
theorem goM_unsnoc {m u : List (List Int)} {p : List Sw} {s : Sw} (h : goM m (p ++ [s]) = some u) : ∃ t, goM m p = some t ∧ swB t s = true ∧ u = flipM t s := by
  rw [goM_append] at h
  cases ht : goM m p with
  | none => rw [ht] at h; cases h
  | some t =>
    rw [ht] at h
    simp only [Option.bind_some, goM] at h
    split at h
    · rename_i hs; exact ⟨t, rfl, hs, (Option.some.inj h).symm⟩
    · cases h
theorem goM_node {R C : Nat} {m t : List (List Int)} {p : List Sw} (hm : Node R C m) (h : goM m p = some t) : Node R C t := by
  induction p generalizing m with
  | nil => cases h; exact hm
  | cons s p ih =>
    simp only [goM] at h
    split at h
    · exact ih (node_flip hm s) h
    · cases h
theorem goM_rev {R C : Nat} {m t : List (List Int)} {p : List Sw} (hm : Node R C m) (h : goM m p = some t) : goM t p.reverse = some m := by
  induction p generalizing m with
  | nil => cases h; rfl
  | cons s p ih =>
    simp only [goM] at h
    split at h
    · rename_i hs
      rw [List.reverse_cons]
      have := goM_snoc (ih (node_flip hm s) h) (swB_back hm hs)
      rw [flip_back hm s] at this
      exact this
    · cases h

/-- A switch by its number, and its number. -/
def decS (i : Nat) : Sw := ⟨((i / 125 : Nat) : Int), ((i / 25 % 5 : Nat) : Int), ((i / 5 % 5 : Nat) : Int), ((i % 5 : Nat) : Int)⟩
def codeS (s : Sw) : Int := ((s.y1 * 5 + s.y2) * 5 + s.x1) * 5 + s.x2
theorem code_dec (i : Nat) : codeS (decS i) = i := by unfold codeS decS; simp only; omega
/-- The switches up to a number, in order. -/
def upS (m : List (List Int)) (k : Nat) : List Sw := ((List.range k).filter fun i => swB m (decS i)).map decS
theorem upS_zero (m : List (List Int)) : upS m 0 = [] := rfl
theorem upS_yes {m : List (List Int)} {k : Nat} (h : swB m (decS k) = true) : upS m (k + 1) = upS m k ++ [decS k] := by
  unfold upS; rw [List.range_succ, List.filter_append, List.map_append]; simp [h]
theorem upS_no {m : List (List Int)} {k : Nat} (h : swB m (decS k) = false) : upS m (k + 1) = upS m k := by
  unfold upS; rw [List.range_succ, List.filter_append, List.map_append]; simp [h]
theorem upS_skip {m : List (List Int)} {k l : Nat} (hkl : k ≤ l) (h : ∀ i, k ≤ i → i < l → swB m (decS i) = false) : upS m l = upS m k := by
  induction l with
  | zero => obtain rfl : k = 0 := by omega
            rfl
  | succ l ih =>
    by_cases e : k = l + 1
    · rw [e]
    · rw [upS_no (h l (by omega) (by omega)), ih (by omega) fun i h1 h2 => h i h1 (by omega)]
def swsM (m : List (List Int)) : List Sw := upS m 625
theorem upS_len (m : List (List Int)) (k : Nat) : (upS m k).length ≤ k := by
  unfold upS; rw [List.length_map]
  exact Nat.le_trans (List.length_filter_le _ _) (by rw [List.length_range]; exact Nat.le_refl _)
theorem upS_mem {m : List (List Int)} {k : Nat} {s : Sw} (h : s ∈ upS m k) : swB m s = true ∧ ∃ i, i < k ∧ s = decS i := by
  unfold upS at h
  simp only [List.mem_map, List.mem_filter, List.mem_range] at h
  obtain ⟨i, ⟨h1, h2⟩, rfl⟩ := h
  exact ⟨h2, i, h1, rfl⟩
theorem sws_mem {R C : Nat} {m : List (List Int)} (hm : Node R C m) {s : Sw} : s ∈ swsM m ↔ swB m s = true := by
  refine ⟨fun h => (upS_mem h).1, fun h => ?_⟩
  obtain ⟨f, rfl, hI⟩ := hm
  have h0 := h
  rw [swB_mk hI] at h
  obtain ⟨a, b, c, d, rfl, hf⟩ := swF_iff.1 h
  have hf := four_iff.1 hf
  have := hI.r2; have := hI.c2
  unfold swsM upS
  simp only [List.mem_map, List.mem_filter, List.mem_range]
  have e : decS (((a * 5 + b) * 5 + c) * 5 + d) = ⟨a, b, c, d⟩ := by
    unfold decS
    rw [show (((a * 5 + b) * 5 + c) * 5 + d) / 125 = a by omega, show (((a * 5 + b) * 5 + c) * 5 + d) / 25 % 5 = b by omega, show (((a * 5 + b) * 5 + c) * 5 + d) / 5 % 5 = c by omega, show (((a * 5 + b) * 5 + c) * 5 + d) % 5 = d by omega]
  exact ⟨((a * 5 + b) * 5 + c) * 5 + d, ⟨by omega, by rw [e]; exact h0⟩, e⟩
/-- One switch comes before another. -/
def swlt (a b : Sw) : Prop := codeS a < codeS b
theorem upS_sorted (m : List (List Int)) (k : Nat) : (upS m k).Pairwise swlt := by
  unfold upS
  rw [List.pairwise_map]
  refine List.Pairwise.imp ?_ (List.Pairwise.filter _ (List.pairwise_lt_range (n := k)))
  intro a b h
  unfold swlt; rw [code_dec, code_dec]; omega
end Go.Proofs.YtbogeghoekmbhaaGreat
/-
  Lists of switches by a number: the shorter ones first, equally long ones in order.
-/
namespace Go.Proofs.YtbogeghoekmbhaaGreat

/-- The number of a switch, from 1 up to 625. -/
def numS (s : Sw) : Nat := (codeS s).toNat + 1
theorem num_dec (i : Nat) : numS (decS i) = i + 1 := by unfold numS; rw [code_dec]; rfl
def val (p : List Sw) : Nat := p.foldl (fun v s => v * 626 + numS s) 0
theorem val_nil : val [] = 0 := rfl
theorem val_snoc (p : List Sw) (s : Sw) : val (p ++ [s]) = val p * 626 + numS s := by simp [val, List.foldl_append]
theorem foldl_val (p : List Sw) : ∀ v, p.foldl (fun v s => v * 626 + numS s) v = v * 626 ^ p.length + val p := by
  induction p with
  | nil => intro v; simp [val]
  | cons s p ih =>
    intro v
    have h0 := ih (v * 626 + numS s)
    have h1 := ih (0 * 626 + numS s)
    unfold val
    simp only [List.foldl_cons, List.length_cons] at h0 h1 ⊢
    rw [h0, h1, Nat.pow_succ, Nat.add_mul, Nat.mul_assoc, Nat.mul_comm 626, Nat.zero_mul, Nat.zero_add, Nat.add_assoc]
theorem val_append (p q : List Sw) : val (p ++ q) = val p * 626 ^ q.length + val q := by
  have := foldl_val q (val p)
  unfold val at this ⊢
  rw [List.foldl_append, this]
theorem val_cons (s : Sw) (p : List Sw) : val (s :: p) = numS s * 626 ^ p.length + val p := by
  have := val_append [s] p
  simpa [val] using this
/-- Switches with numbers in their range. -/
def InR (p : List Sw) : Prop := ∀ s ∈ p, 1 ≤ numS s ∧ numS s ≤ 625
theorem inR_snoc {p : List Sw} {s : Sw} : InR (p ++ [s]) ↔ InR p ∧ (1 ≤ numS s ∧ numS s ≤ 625) := by
  unfold InR
  constructor
  · intro h; exact ⟨fun t ht => h t (by simp [ht]), h s (by simp)⟩
  · rintro ⟨h1, h2⟩ t ht
    rcases List.mem_append.1 ht with h | h
    · exact h1 t h
    · rw [List.mem_singleton] at h; subst h; exact h2
theorem inR_cons {p : List Sw} {s : Sw} : InR (s :: p) ↔ (1 ≤ numS s ∧ numS s ≤ 625) ∧ InR p := by
  unfold InR
  constructor
  · intro h; exact ⟨h s (by simp), fun t ht => h t (by simp [ht])⟩
  · rintro ⟨h1, h2⟩ t ht
    rcases List.mem_cons.1 ht with h | h
    · subst h; exact h1
    · exact h2 t h
theorem snoc_ind {α : Type} {C : List α → Prop} (h0 : C []) (h1 : ∀ p s, C p → C (p ++ [s])) : ∀ p, C p := by
  intro p
  have : ∀ n (p : List α), p.length = n → C p := by
    intro n
    induction n with
    | zero => intro p hp; rw [List.eq_nil_of_length_eq_zero hp]; exact h0
    | succ n ih =>
      intro p hp
      rcases List.eq_nil_or_concat p with rfl | ⟨q, b, rfl⟩
      · simp at hp
      · rw [List.concat_eq_append] at hp ⊢
        exact h1 q b (ih q (by simpa using hp))
  exact this _ p rfl
theorem val_lt {p : List Sw} (h : InR p) : val p + 1 ≤ 626 ^ p.length := by
  induction p using snoc_ind with
  | h0 => simp [val]
  | h1 p s ih =>
    obtain ⟨h1, h2⟩ := inR_snoc.1 h
    have := ih h1
    rw [val_snoc, List.length_append, List.length_singleton, Nat.pow_succ]
    omega
theorem val_ge {p : List Sw} (h : InR p) : 626 ^ p.length ≤ 626 * val p + 1 := by
  induction p using snoc_ind with
  | h0 => simp [val]
  | h1 p s ih =>
    obtain ⟨h1, h2⟩ := inR_snoc.1 h
    have := ih h1
    rw [val_snoc, List.length_append, List.length_singleton, Nat.pow_succ]
    omega
theorem val_short {p q : List Sw} (hp : InR p) (hq : InR q) (h : p.length < q.length) : val p < val q := by
  have h1 := val_lt hp
  have h2 := val_ge hq
  have h3 : 626 ^ (p.length + 1) ≤ 626 ^ q.length := Nat.pow_le_pow_right (by decide) h
  rw [Nat.pow_succ] at h3
  omega
theorem val_inj {p : List Sw} : ∀ {q : List Sw}, InR p → InR q → (∀ s ∈ p, ∃ i, i < 625 ∧ s = decS i) → (∀ s ∈ q, ∃ i, i < 625 ∧ s = decS i) → val p = val q → p = q := by
  induction p using snoc_ind with
  | h0 =>
    intro q _ hq _ _ h
    rcases List.eq_nil_or_concat q with rfl | ⟨q', b, rfl⟩
    · rfl
    · rw [List.concat_eq_append] at h hq
      have := (inR_snoc.1 hq).2
      rw [val_snoc, val_nil] at h
      omega
  | h1 p s ih =>
    intro q hp hq hp2 hq2 h
    obtain ⟨hp1, hs⟩ := inR_snoc.1 hp
    rcases List.eq_nil_or_concat q with rfl | ⟨q', b, rfl⟩
    · rw [val_snoc, val_nil] at h; omega
    · rw [List.concat_eq_append] at h hq hq2 ⊢
      obtain ⟨hq1, hb⟩ := inR_snoc.1 hq
      rw [val_snoc, val_snoc] at h
      have e1 : val p = val q' := by omega
      have e2 : numS s = numS b := by omega
      obtain ⟨i, hi, rfl⟩ := hp2 s (by simp)
      obtain ⟨j, hj, rfl⟩ := hq2 b (by simp)
      rw [num_dec, num_dec] at e2
      obtain rfl : i = j := by omega
      rw [ih hp1 hq1 (fun t ht => hp2 t (by simp [ht])) (fun t ht => hq2 t (by simp [ht])) e1]

/-- Each switch of an image has a number. -/
theorem swB_num {R C : Nat} {m : List (List Int)} (hm : Node R C m) {s : Sw} (h : swB m s = true) : ∃ i, i < 625 ∧ s = decS i := (upS_mem ((sws_mem hm).2 h)).2
theorem goM_inR {R C : Nat} : ∀ (p : List Sw) {m t : List (List Int)}, Node R C m → goM m p = some t → (∀ s ∈ p, ∃ i, i < 625 ∧ s = decS i)
  | [], _, _, _, _ => fun s hs => by simp at hs
  | s :: p, m, t, hm, h => by
    simp only [goM] at h
    split at h
    · rename_i hs
      intro u hu
      rcases List.mem_cons.1 hu with rfl | hu
      · exact swB_num hm hs
      · exact goM_inR p (node_flip hm s) h u hu
    · cases h
theorem inR_of {p : List Sw} (h : ∀ s ∈ p, ∃ i, i < 625 ∧ s = decS i) : InR p := fun s hs => by
  obtain ⟨i, hi, rfl⟩ := h s hs
  rw [num_dec]; omega
/-- A path that comes before all others. -/
def Best (m t : List (List Int)) (p : List Sw) : Prop := goM m p = some t ∧ ∀ q, goM m q = some t → val p ≤ val q
theorem best_one {R C : Nat} {m t : List (List Int)} {p q : List Sw} (hm : Node R C m) (h1 : Best m t p) (h2 : Best m t q) : p = q := by
  have a := goM_inR p hm h1.1; have b := goM_inR q hm h2.1
  exact val_inj (inR_of a) (inR_of b) a b (Nat.le_antisymm (h1.2 q h2.1) (h2.2 p h1.1))
theorem best_len {R C : Nat} {m t : List (List Int)} {p q : List Sw} (hm : Node R C m) (h : Best m t p) (hq : goM m q = some t) : p.length ≤ q.length := by
  refine Nat.le_of_not_lt fun hl => ?_
  have := val_short (inR_of (goM_inR q hm hq)) (inR_of (goM_inR p hm h.1)) hl
  have := h.2 q hq
  omega
/-- The rest of such a path is one too. -/
theorem best_tail {R C : Nat} {m t : List (List Int)} {s : Sw} {p : List Sw} (hm : Node R C m) (h : Best m t (s :: p)) : swB m s = true ∧ Best (flipM m s) t p := by
  obtain ⟨h1, h2⟩ := h
  simp only [goM] at h1
  split at h1
  · rename_i hs
    refine ⟨hs, h1, fun q hq => ?_⟩
    have hn := node_flip hm s
    have hg : goM m (s :: q) = some t := by simp only [goM, hs, if_true]; exact hq
    have h3 := h2 _ hg
    have ip := inR_of (goM_inR p hn h1); have iq := inR_of (goM_inR q hn hq)
    rcases Nat.lt_trichotomy p.length q.length with hl | hl | hl
    · exact Nat.le_of_lt (val_short ip iq hl)
    · rw [val_cons, val_cons, hl] at h3; omega
    · exfalso
      have i1 := inR_of (goM_inR (s :: q) hm hg)
      have i2 := inR_of (goM_inR (s :: p) hm (by simp only [goM, hs, if_true]; exact h1))
      have := val_short i1 i2 (by simp only [List.length_cons]; omega)
      omega
  · cases h1
theorem best_nil (m : List (List Int)) : Best m m [] := ⟨rfl, fun _ _ => Nat.zero_le _⟩
end Go.Proofs.YtbogeghoekmbhaaGreat
/-
  A search in breadth over images and switches: the first path to each image comes before all others.
-/
namespace Go.Proofs.YtbogeghoekmbhaaGreat

theorem getD_snoc_lt {α : Type} (l : List α) (x d : α) {i : Nat} (h : i < l.length) : (l ++ [x]).getD i d = l.getD i d := by
  simp [List.getD_eq_getElem?_getD, List.getElem?_append_left h]
theorem getD_snoc_eq {α : Type} (l : List α) (x d : α) : (l ++ [x]).getD l.length d = x := by simp [List.getD_eq_getElem?_getD]
theorem getD_mem {α : Type} {l : List α} {d : α} {i : Nat} (h : i < l.length) : l.getD i d ∈ l := by
  rw [List.getD_eq_getElem?_getD, List.getElem?_eq_getElem h]; exact List.getElem_mem h
theorem mem_getD {α : Type} {l : List α} (d : α) {x : α} (h : x ∈ l) : ∃ i, i < l.length ∧ l.getD i d = x := by
  obtain ⟨i, hi, e⟩ := List.getElem_of_mem h
  exact ⟨i, hi, by rw [List.getD_eq_getElem?_getD, List.getElem?_eq_getElem hi]; exact e⟩
theorem val_pre (p q : List Sw) : val p ≤ val (p ++ q) := by
  rw [val_append]
  have : 626 ^ 0 ≤ 626 ^ q.length := Nat.pow_le_pow_right (by decide) (Nat.zero_le _)
  rw [Nat.pow_zero] at this
  have h2 := Nat.mul_le_mul_left (val p) this
  omega

/-- Image a is under way, its switches up to number K are done. -/
structure Bfs (m : List (List Int)) (L : List (List (List Int))) (W : List (List Sw)) (a K : Nat) : Prop where
  len : W.length = L.length
  pos : 0 < L.length
  head : L.getD 0 [] = m
  le : a ≤ L.length
  best : ∀ i, i < L.length → Best m (L.getD i []) (W.getD i [])
  sorted : ∀ i j, i < j → j < L.length → val (W.getD i []) < val (W.getD j [])
  pend : a < L.length → ∀ i, i < L.length → val (W.getD i []) ≤ val (W.getD a []) * 626 + K
  done : ∀ i, i < a → ∀ s, swB (L.getD i []) s = true → flipM (L.getD i []) s ∈ L
  half : a < L.length → ∀ s, swB (L.getD a []) s = true → numS s ≤ K → flipM (L.getD a []) s ∈ L
  tree : ∀ i, i < L.length → (W.getD i [] = [] ∧ L.getD i [] = m) ∨ ∃ j s, j < i ∧ W.getD i [] = W.getD j [] ++ [s] ∧ swB (L.getD j []) s = true ∧ L.getD i [] = flipM (L.getD j []) s

theorem bfs_start (m : List (List Int)) : Bfs m [m] [[]] 0 0 := by
  have h0 : ∀ i, i < [m].length → i = 0 := fun i hi => by simp at hi; exact hi
  refine ⟨rfl, by simp, rfl, by simp, fun i hi => ?_, fun i j hij hj => ?_, fun _ i hi => ?_, fun i hi => by omega, fun _ s _ hs => ?_, fun i hi => ?_⟩
  · obtain rfl := h0 i hi; exact best_nil m
  · have := h0 j hj; omega
  · obtain rfl := h0 i hi; simp [val]
  · unfold numS at hs; omega
  · obtain rfl := h0 i hi; exact .inl ⟨rfl, rfl⟩
theorem exit_of {m : List (List Int)} {L : List (List (List Int))} (hm : m ∈ L) : ∀ (q : List Sw) (x : List (List Int)), goM m q = some x → x ∉ L → ∃ q1 s q2 y, q = q1 ++ s :: q2 ∧ goM m q1 = some y ∧ y ∈ L ∧ swB y s = true ∧ flipM y s ∉ L := by
  intro q
  induction q using snoc_ind with
  | h0 => intro x h hx; cases h; exact absurd hm hx
  | h1 p s ih =>
    intro x h hx
    obtain ⟨t, h1, h2, rfl⟩ := goM_unsnoc h
    by_cases ht : t ∈ L
    · exact ⟨p, s, [], t, rfl, h1, ht, h2, hx⟩
    · obtain ⟨q1, s1, q2, y, rfl, g1, g2, g3, g4⟩ := ih t h1 ht
      exact ⟨q1, s1, q2 ++ [s], y, by simp, g1, g2, g3, g4⟩
theorem bfs_node {R C : Nat} {m : List (List Int)} {L : List (List (List Int))} {W : List (List Sw)} {a K : Nat} (hm : Node R C m) (h : Bfs m L W a K) {i : Nat} (hi : i < L.length) : Node R C (L.getD i []) := goM_node hm (h.best i hi).1
theorem bfs_head {m : List (List Int)} {L : List (List (List Int))} {W : List (List Sw)} {a K : Nat} (h : Bfs m L W a K) : m ∈ L := by
  have := getD_mem (d := []) h.pos
  rwa [h.head] at this
set_option maxRecDepth 100000 in
theorem bfs_known {m : List (List Int)} {L : List (List (List Int))} {W : List (List Sw)} {a K : Nat} {s : Sw} {R C : Nat} (hm : Node R C m) (h : Bfs m L W a K) (ha : a < L.length) (hs : swB (L.getD a []) s = true) (hK : K ≤ numS s)
    (hall : ∀ s', swB (L.getD a []) s' = true → numS s' < numS s → numS s' ≤ K) (hx : flipM (L.getD a []) s ∈ L) : Bfs m L W a (numS s) := by
  refine ⟨h.len, h.pos, h.head, h.le, h.best, h.sorted, fun h1 i hi => ?_, h.done, fun h1 s' hs' hn => ?_, h.tree⟩
  · have := h.pend h1 i hi; omega
  · by_cases e : numS s' < numS s
    · exact h.half h1 s' hs' (hall s' hs' e)
    · obtain ⟨i, hi, rfl⟩ := swB_num (bfs_node hm h ha) hs
      obtain ⟨j, hj, rfl⟩ := swB_num (bfs_node hm h ha) hs'
      rw [num_dec, num_dec] at hn e
      obtain rfl : i = j := by omega
      exact hx
set_option maxRecDepth 100000 in
theorem bfs_new {m : List (List Int)} {L : List (List (List Int))} {W : List (List Sw)} {a K : Nat} {s : Sw} {R C : Nat} (hm : Node R C m) (h : Bfs m L W a K) (ha : a < L.length) (hs : swB (L.getD a []) s = true) (hK : K ≤ numS s)
    (hall : ∀ s', swB (L.getD a []) s' = true → numS s' < numS s → numS s' ≤ K) (hx : flipM (L.getD a []) s ∉ L) : Bfs m (L ++ [flipM (L.getD a []) s]) (W ++ [W.getD a [] ++ [s]]) a (numS s) := by
  have haW : a < W.length := by rw [h.len]; exact ha
  have hnum : ∀ j, j < L.length → ∀ s', swB (L.getD j []) s' = true → 1 ≤ numS s' ∧ numS s' ≤ 625 := fun j hj s' hs' => by
    obtain ⟨i, hi, rfl⟩ := swB_num (bfs_node hm h hj) hs'
    rw [num_dec]; omega
  have hKs : K < numS s := by
    refine Nat.lt_of_le_of_ne hK fun e => hx (h.half ha s hs (by omega))
  have hn := hnum a ha s hs
  have hval : val (W.getD a [] ++ [s]) = val (W.getD a []) * 626 + numS s := val_snoc _ _
  have hb := h.best a ha
  have hbest : Best m (flipM (L.getD a []) s) (W.getD a [] ++ [s]) := by
    refine ⟨goM_snoc hb.1 hs, fun q hq => ?_⟩
    obtain ⟨q1, s1, q2, y, rfl, g1, g2, g3, g4⟩ := exit_of (bfs_head h) q _ hq hx
    obtain ⟨j, hj, rfl⟩ := mem_getD [] g2
    have e1 : val (q1 ++ [s1]) ≤ val (q1 ++ s1 :: q2) := by
      have := val_pre (q1 ++ [s1]) q2
      simpa using this
    rw [val_snoc] at e1
    have e2 := (h.best j hj).2 q1 g1
    have e3 := hnum j hj s1 g3
    rw [hval]
    rcases Nat.lt_trichotomy j a with hja | rfl | hja
    · exact absurd (h.done j hja s1 g3) g4
    · by_cases e4 : numS s1 < numS s
      · exact absurd (h.half ha s1 g3 (hall s1 g3 e4)) g4
      · omega
    · have := h.sorted a j hja hj
      omega
  refine ⟨by simp [h.len], by simp, ?_, by simp only [List.length_append, List.length_singleton]; omega, fun i hi => ?_, fun i j hij hj => ?_, fun _ i hi => ?_, fun i hi s' hs' => ?_, fun _ s' hs' hn' => ?_, fun i hi => ?_⟩
  · rw [getD_snoc_lt _ _ _ h.pos]; exact h.head
  · simp only [List.length_append, List.length_singleton] at hi
    by_cases e : i < L.length
    · rw [getD_snoc_lt _ _ _ e, getD_snoc_lt _ _ _ (by rw [h.len]; exact e)]; exact h.best i e
    · obtain rfl : i = L.length := by omega
      have e1 := getD_snoc_eq W (W.getD a [] ++ [s]) []
      rw [h.len] at e1
      rw [getD_snoc_eq, e1]; exact hbest
  · simp only [List.length_append, List.length_singleton] at hj
    rw [getD_snoc_lt W _ _ (by rw [h.len]; omega)]
    by_cases e : j < L.length
    · rw [getD_snoc_lt _ _ _ (by rw [h.len]; exact e)]; exact h.sorted i j hij e
    · obtain rfl : j = L.length := by omega
      have e1 := getD_snoc_eq W (W.getD a [] ++ [s]) []
      rw [h.len] at e1
      rw [e1, hval]
      have := h.pend ha i hij
      omega
  · simp only [List.length_append, List.length_singleton] at hi
    rw [getD_snoc_lt W _ _ haW]
    by_cases e : i < L.length
    · rw [getD_snoc_lt _ _ _ (by rw [h.len]; exact e)]
      have := h.pend ha i e
      omega
    · obtain rfl : i = L.length := by omega
      have e1 := getD_snoc_eq W (W.getD a [] ++ [s]) []
      rw [h.len] at e1
      rw [e1, hval]; exact Nat.le_refl _
  · rw [getD_snoc_lt _ _ _ (by omega)] at hs' ⊢
    exact List.mem_append_left _ (h.done i hi s' hs')
  · rw [getD_snoc_lt _ _ _ ha] at hs' ⊢
    by_cases e : numS s' < numS s
    · exact List.mem_append_left _ (h.half ha s' hs' (hall s' hs' e))
    · obtain ⟨i, hi, rfl⟩ := swB_num (bfs_node hm h ha) hs
      obtain ⟨j, hj, rfl⟩ := swB_num (bfs_node hm h ha) hs'
      rw [num_dec, num_dec] at hn' e
      obtain rfl : i = j := by omega
      exact List.mem_append_right _ (List.mem_singleton.2 rfl)
  · simp only [List.length_append, List.length_singleton] at hi
    by_cases e : i < L.length
    · rw [getD_snoc_lt _ _ _ e, getD_snoc_lt _ _ _ (by rw [h.len]; exact e)]
      rcases h.tree i e with h1 | ⟨j, t, hj, h1, h2, h3⟩
      · exact .inl h1
      · exact .inr ⟨j, t, hj, by rw [getD_snoc_lt _ _ _ (by rw [h.len]; omega)]; exact h1, by rw [getD_snoc_lt _ _ _ (by omega)]; exact h2, by rw [getD_snoc_lt _ _ _ (by omega)]; exact h3⟩
    · obtain rfl : i = L.length := by omega
      have e1 := getD_snoc_eq W (W.getD a [] ++ [s]) []
      rw [h.len] at e1
      rw [getD_snoc_eq, e1]
      exact .inr ⟨a, s, ha, by rw [getD_snoc_lt _ _ _ haW], by rw [getD_snoc_lt _ _ _ ha]; exact hs, by rw [getD_snoc_lt _ _ _ ha]⟩
set_option maxRecDepth 100000 in
theorem bfs_next {m : List (List Int)} {L : List (List (List Int))} {W : List (List Sw)} {a K : Nat} (h : Bfs m L W a K) (ha : a < L.length) (hK : K ≤ 625) (hall : ∀ s, swB (L.getD a []) s = true → numS s ≤ K) : Bfs m L W (a + 1) 0 := by
  refine ⟨h.len, h.pos, h.head, by omega, h.best, h.sorted, fun h1 i hi => ?_, fun i hi s hs => ?_, fun _ s _ hs => ?_, h.tree⟩
  · have := h.pend ha i hi
    have := h.sorted a (a + 1) (Nat.lt_succ_self _) h1
    omega
  · by_cases e : i < a
    · exact h.done i e s hs
    · obtain rfl : i = a := by omega
      exact h.half ha s hs (hall s hs)
  · unfold numS at hs; omega
theorem bfs_all {m t : List (List Int)} {L : List (List (List Int))} {W : List (List Sw)} {K : Nat} (h : Bfs m L W L.length K) : ∀ q : List Sw, goM m q = some t → t ∈ L := by
  intro q hq
  refine Classical.byContradiction fun hx => ?_
  obtain ⟨q1, s1, q2, y, rfl, g1, g2, g3, g4⟩ := exit_of (bfs_head h) q _ hq hx
  obtain ⟨j, hj, rfl⟩ := mem_getD [] g2
  exact g4 (h.done j hj s1 g3)
theorem bfs_inj {m : List (List Int)} {L : List (List (List Int))} {W : List (List Sw)} {a K : Nat} {R C : Nat} (hm : Node R C m) (h : Bfs m L W a K) {i j : Nat} (hi : i < L.length) (hj : j < L.length) (e : L.getD i [] = L.getD j []) : i = j := by
  have h1 := h.best i hi
  rw [e] at h1
  have h2 := best_one hm h1 (h.best j hj)
  rcases Nat.lt_trichotomy i j with h3 | h3 | h3
  · have := h.sorted i j h3 hj; rw [h2] at this; omega
  · exact h3
  · have := h.sorted j i h3 hi; rw [h2] at this; omega

/-- How many there can be. -/
def bitsN : List Int → Nat
  | [] => 0
  | x :: l => (if x = 1 then 1 else 0) + 2 * bitsN l
theorem bits_lt : ∀ l : List Int, bitsN l < 2 ^ l.length
  | [] => by simp [bitsN]
  | x :: l => by
    have := bits_lt l
    simp only [bitsN, List.length_cons, Nat.pow_succ]
    split <;> omega
theorem bits_inj : ∀ {l k : List Int}, l.length = k.length → (∀ x ∈ l, x = 0 ∨ x = 1) → (∀ x ∈ k, x = 0 ∨ x = 1) → bitsN l = bitsN k → l = k
  | [], [], _, _, _, _ => rfl
  | [], _ :: _, h, _, _, _ => by simp at h
  | _ :: _, [], h, _, _, _ => by simp at h
  | x :: l, y :: k, h, hl, hk, e => by
    have hx := hl x (by simp); have hy := hk y (by simp)
    simp only [bitsN] at e
    have e1 : x = y := by
      rcases hx with rfl | rfl <;> rcases hy with rfl | rfl <;> simp at e ⊢ <;> omega
    subst e1
    rw [bits_inj (l := l) (k := k) (by simpa using h) (fun z hz => hl z (by simp [hz])) (fun z hz => hk z (by simp [hz])) (by omega)]
theorem len_split {α : Type} (p : α → Bool) : ∀ l : List α, l.length = (l.filter p).length + (l.filter fun x => !p x).length
  | [] => rfl
  | x :: l => by
    have := len_split p l
    simp only [List.filter_cons, List.length_cons]
    cases p x <;> simp <;> omega
theorem nodup_len : ∀ (N : Nat) (l : List Nat), l.Nodup → (∀ x ∈ l, x < N) → l.length ≤ N
  | 0, l, _, h => by
    cases l with
    | nil => exact Nat.le_refl _
    | cons x l => exact absurd (h x (by simp)) (Nat.not_lt_zero _)
  | N + 1, l, hn, h => by
    have h1 := nodup_len N (l.filter fun x => decide (x < N)) (hn.filter _) (fun x hx => by simpa using (List.mem_filter.1 hx).2)
    have h2 : (l.filter fun x => !decide (x < N)).length ≤ 1 := by
      have hnd : (l.filter fun x => !decide (x < N)).Nodup := hn.filter _
      have hall : ∀ x ∈ l.filter (fun x => !decide (x < N)), x = N := fun x hx => by
        obtain ⟨a, b⟩ := List.mem_filter.1 hx
        have := h x a
        simp at b; omega
      match hq : l.filter (fun x => !decide (x < N)) with
      | [] => simp
      | [_] => simp
      | x :: y :: r =>
        rw [hq] at hnd hall
        have e1 := hall x (by simp); have e2 := hall y (by simp)
        rw [e1, e2] at hnd
        simp at hnd
    have h3 := len_split (fun x => decide (x < N)) l
    omega
theorem node_flat {R C : Nat} {m : List (List Int)} (h : Node R C m) : m.flatten.length = R * C ∧ ∀ x ∈ m.flatten, x = 0 ∨ x = 1 := by
  obtain ⟨f, rfl, hI⟩ := h
  constructor
  · have := cells_mkM R C f
    unfold cellsM at this
    rw [List.length_flatten]; exact this
  · intro x hx
    obtain ⟨r, hr, hx⟩ := List.mem_flatten.1 hx
    unfold mkM at hr
    obtain ⟨y, hy, rfl⟩ := List.mem_map.1 hr
    unfold rowF at hx
    obtain ⟨z, hz, rfl⟩ := List.mem_map.1 hx
    exact hI.cell y z (List.mem_range.1 hy) (List.mem_range.1 hz)
theorem flat_inj {C : Nat} (hC : 0 < C) : ∀ {a b : List (List Int)}, (∀ r ∈ a, r.length = C) → (∀ r ∈ b, r.length = C) → a.flatten = b.flatten → a = b
  | [], [], _, _, _ => rfl
  | [], r :: b, _, hb, h => by
    have h1 := congrArg List.length h
    have h2 := hb r (by simp)
    simp only [List.flatten_nil, List.length_nil, List.flatten_cons, List.length_append] at h1
    omega
  | r :: a, [], ha, _, h => by
    have h1 := congrArg List.length h
    have h2 := ha r (by simp)
    simp only [List.flatten_nil, List.length_nil, List.flatten_cons, List.length_append] at h1
    omega
  | r :: a, s :: b, ha, hb, h => by
    simp only [List.flatten_cons] at h
    obtain ⟨e1, e2⟩ := List.append_inj h (by rw [ha r (by simp), hb s (by simp)])
    rw [e1, flat_inj hC (fun q hq => ha q (by simp [hq])) (fun q hq => hb q (by simp [hq])) e2]
theorem node_inj {R C : Nat} {m t : List (List Int)} (hm : Node R C m) (ht : Node R C t) (e : bitsN m.flatten = bitsN t.flatten) : m = t := by
  obtain ⟨a1, a2⟩ := node_flat hm; obtain ⟨b1, b2⟩ := node_flat ht
  have hf := bits_inj (by rw [a1, b1]) a2 b2 e
  obtain ⟨f, rfl, hI⟩ := hm
  obtain ⟨g, rfl, -⟩ := ht
  have hr : ∀ (h : Nat → Nat → Int), ∀ r ∈ mkM R C h, r.length = C := fun h r hr => by
    unfold mkM at hr
    obtain ⟨y, -, rfl⟩ := List.mem_map.1 hr
    exact rowF_len _ _
  exact flat_inj (by have := hI.c1; omega) (hr f) (hr g) hf
theorem bfs_size {m : List (List Int)} {L : List (List (List Int))} {W : List (List Sw)} {a K : Nat} {R C : Nat} (hm : Node R C m) (hR : R ≤ 4) (hC : C ≤ 4) (h : Bfs m L W a K) : L.length ≤ 65536 := by
  have h1 := nodup_len 65536 ((List.range L.length).map fun i => bitsN (L.getD i []).flatten) ?_ ?_
  · simpa using h1
  · rw [List.nodup_iff_pairwise_ne, List.pairwise_map]
    refine List.Pairwise.imp_of_mem ?_ (List.pairwise_lt_range (n := L.length))
    intro i j hi hj hij e
    have hi := List.mem_range.1 hi; have hj := List.mem_range.1 hj
    have := bfs_inj hm h hi hj (node_inj (bfs_node hm h hi) (bfs_node hm h hj) e)
    omega
  · intro x hx
    obtain ⟨i, hi, rfl⟩ := List.mem_map.1 hx
    have hi := List.mem_range.1 hi
    have h1 := bits_lt (L.getD i []).flatten
    rw [(node_flat (bfs_node hm h hi)).1] at h1
    have h2 : R * C ≤ 4 * 4 := Nat.mul_le_mul hR hC
    exact Nat.lt_of_lt_of_le h1 (Nat.pow_le_pow_right (by decide) h2)
end Go.Proofs.YtbogeghoekmbhaaGreat
/-
  Cells that all images with the same sums agree in: the alternating graph, and a search in it.
-/
namespace Go.Proofs.YtbogeghoekmbhaaGreat
open Mx

/-- From a row to the columns of its black cells, from a column to the rows of its white cells. -/
def edge (R : Nat) (f : Nat → Nat → Int) (v w : Nat) : Bool := (decide (v < R) && (decide (R ≤ w) && f v (w - R) == 1)) || (decide (R ≤ v) && (decide (w < R) && f w (v - R) == 0))
def ClosedV (R C : Nat) (f : Nat → Nat → Int) (X : Nat → Bool) : Prop := ∀ v w, v < R + C → w < R + C → X v = true → edge R f v w = true → X w = true
def Rch (R C : Nat) (f : Nat → Nat → Int) (a v : Nat) : Prop := ∀ X, ClosedV R C f X → X a = true → X v = true
theorem rch_refl (R C : Nat) (f : Nat → Nat → Int) (a : Nat) : Rch R C f a a := fun _ _ h => h
theorem rch_step {R C : Nat} {f : Nat → Nat → Int} {a v w : Nat} (h : Rch R C f a v) (hv : v < R + C) (hw : w < R + C) (he : edge R f v w = true) : Rch R C f a w := fun X hX ha => hX v w hv hw (h X hX ha) he
theorem edge_rc {R : Nat} {f : Nat → Nat → Int} {v x : Nat} (hv : v < R) : edge R f v (R + x) = (f v x == 1) := by
  unfold edge
  rw [decide_eq_true hv, decide_eq_true (Nat.le_add_right R x), decide_eq_false (show ¬ R ≤ v by omega), Nat.add_sub_cancel_left]; simp
theorem edge_cr {R : Nat} {f : Nat → Nat → Int} {y x : Nat} (hy : y < R) : edge R f (R + x) y = (f y x == 0) := by
  unfold edge
  rw [decide_eq_false (show ¬ R + x < R by omega), decide_eq_true (Nat.le_add_right R x), decide_eq_true hy, Nat.add_sub_cancel_left]; simp

theorem S_eq_of_le {f g : Nat → Int} : ∀ n, (∀ i, i < n → f i ≤ g i) → S n f = S n g → ∀ i, i < n → f i = g i
  | 0, _, _, i, hi => absurd hi (Nat.not_lt_zero _)
  | n + 1, h, e, i, hi => by
    have h1 := S_le n fun i hi => h i (Nat.lt_succ_of_lt hi)
    have h2 := h n (Nat.lt_succ_self _)
    rw [S, S] at e
    by_cases e2 : i = n
    · subst e2; omega
    · exact S_eq_of_le n (fun i hi => h i (Nat.lt_succ_of_lt hi)) (by omega) i (by omega)
theorem S2_eq_of_le {f g : Nat → Nat → Int} (R C : Nat) (h : ∀ y x, y < R → x < C → f y x ≤ g y x) (e : S R (fun y => S C (f y)) = S R fun y => S C (g y)) : ∀ y x, y < R → x < C → f y x = g y x := fun y x hy hx =>
  S_eq_of_le C (fun x hx => h y x hy hx) (S_eq_of_le R (fun y hy => S_le C fun x hx => h y x hy hx) e y hy) x hx
theorem S_on (p : Bool) (f : Nat → Int) (n : Nat) : (if p then S n f else 0) = S n fun i => if p then f i else 0 := by
  cases p
  · simp [S_zero]
  · simp
theorem over_img {R C : Nat} {r c : Nat → Int} {f : Nat → Nat → Int} (hr : ∀ y, y < R → S C (f y) = r y) (hc : ∀ x, x < C → S R (fun y => f y x) = c x) (L O : Nat → Bool) :
    S R (on L r) - S C (on O c) = S R fun y => S C fun x => kc (L y) (O x) (f y x) (f y x) := by
  have e1 : S R (on L r) = S R fun y => S C fun x => if L y then f y x else 0 := S_congr R fun y hy => by
    unfold on; rw [← hr y hy, S_on]
  have e2 : S C (on O c) = S R fun y => S C fun x => if O x then f y x else 0 := by
    rw [S_swap]
    exact S_congr C fun x hx => by unfold on; rw [← hc x hx, S_on]
  rw [e1, e2, ← S_sub]
  exact S_congr R fun y _ => by
    rw [← S_sub]
    exact S_congr C fun x _ => by unfold kc; cases L y <;> cases O x <;> simp
section
variable {R C : Nat} {f : Nat → Nat → Int}
/-- What a closed set leaves no choice in. -/
theorem closed_fix {g : Nat → Nat → Int} (hf : ∀ y x, y < R → x < C → f y x = 0 ∨ f y x = 1) (hg : ∀ y x, y < R → x < C → g y x = 0 ∨ g y x = 1) (hr : ∀ y, y < R → S C (g y) = S C (f y)) (hc : ∀ x, x < C → S R (fun y => g y x) = S R fun y => f y x)
    {X : Nat → Bool} (hX : ClosedV R C f X) : ∀ y x, y < R → x < C → X y ≠ X (R + x) → g y x = f y x := by
  have e := (over_img (r := fun y => S C (f y)) (c := fun x => S R fun y => f y x) (fun _ _ => rfl) (fun _ _ => rfl) (fun y => !X y) fun x => !X (R + x)).symm.trans (over_img (f := g) hr hc (fun y => !X y) fun x => !X (R + x))
  have hle : ∀ y x, y < R → x < C → kc (!X y) (!X (R + x)) (g y x) (g y x) ≤ kc (!X y) (!X (R + x)) (f y x) (f y x) := fun y x hy hx => by
    have h1 := hg y x hy hx
    unfold kc
    cases h2 : X y <;> cases h3 : X (R + x) <;> simp
    · have : ¬ edge R f (R + x) y = true := fun he => by have := hX _ _ (by omega) (by omega) h3 he; rw [h2] at this; cases this
      rw [edge_cr hy] at this
      rcases hf y x hy hx with h4 | h4
      · rw [h4] at this; exact absurd rfl this
      · rw [h4]; omega
    · have : ¬ edge R f y (R + x) = true := fun he => by have := hX _ _ (by omega) (by omega) h2 he; rw [h3] at this; cases this
      rw [edge_rc hy] at this
      rcases hf y x hy hx with h4 | h4
      · rw [h4]; omega
      · rw [h4] at this; exact absurd rfl this
  intro y x hy hx hne
  have h5 := S2_eq_of_le R C hle e.symm y x hy hx
  unfold kc at h5
  cases h2 : X y <;> cases h3 : X (R + x) <;> simp [h2, h3] at h5 hne <;> omega
/-- A cell that can be reached in the graph is free. -/
theorem free_of_rch (hf : ∀ y x, y < R → x < C → f y x = 0 ∨ f y x = 1) {y x : Nat} (hy : y < R) (hx : x < C) (h : if f y x = 1 then Rch R C f (R + x) y else Rch R C f y (R + x)) :
    ∃ g : Nat → Nat → Int, (∀ y x, y < R → x < C → g y x = 0 ∨ g y x = 1) ∧ (∀ y, y < R → S C (g y) = S C (f y)) ∧ (∀ x, x < C → S R (fun y => g y x) = S R fun y => f y x) ∧ g y x = 1 - f y x := by
  have hbd : ∀ (lo hi : Nat → Nat → Int), (∀ a b, a < R → b < C → (lo a b = if a = y ∧ b = x then 1 - f y x else 0) ∧ (hi a b = if a = y ∧ b = x then 1 - f y x else 1)) →
      ∃ g : Nat → Nat → Int, (∀ y x, y < R → x < C → g y x = 0 ∨ g y x = 1) ∧ (∀ y, y < R → S C (g y) = S C (f y)) ∧ (∀ x, x < C → S R (fun y => g y x) = S R fun y => f y x) ∧ g y x = 1 - f y x := by
    intro lo hi hlh
    have h01 := hf y x hy hx
    obtain ⟨g, g1, g2, g3⟩ := exists_between R C (fun y => S C (f y)) (fun x => S R fun y => f y x) (S_swap f C R) _ lo hi (Nat.le_refl _) (fun a b ha hb => by
      obtain ⟨e1, e2⟩ := hlh a b ha hb
      rw [e1, e2]
      split <;> omega) (fun L O => by
      by_cases hov : over R C (fun y => S C (f y)) (fun x => S R fun y => f y x) lo hi L O ≤ 0
      · exact hov
      exfalso
      -- all cells give what they can, but for the one
      have hcell : ∀ a b, a < R → b < C → kc (L a) (O b) (f a b) (f a b) ≤ kc (L a) (O b) (hi a b) (lo a b) + if a = y ∧ b = x then 1 else 0 := fun a b ha hb => by
        obtain ⟨e1, e2⟩ := hlh a b ha hb
        have h1 := hf a b ha hb
        rw [e1, e2]
        by_cases e : a = y ∧ b = x
        · obtain ⟨rfl, rfl⟩ := e
          simp only [and_self, if_true]
          unfold kc; cases L a <;> cases O b <;> simp <;> omega
        · simp only [e, if_false]
          unfold kc; cases L a <;> cases O b <;> simp <;> omega
      have hone : (S R fun a => S C fun b => if a = y ∧ b = x then (1 : Int) else 0) = 1 := by
        rw [S_one R hy (fun a _ hne => by rw [S_congr C (g := fun _ => 0) (fun b _ => by simp [hne]), S_zero]), S_one C hx (fun b _ hne => by simp [hne])]
        simp
      have hsum : (S R fun a => S C fun b => kc (L a) (O b) (f a b) (f a b)) = S R fun a => S C fun b => kc (L a) (O b) (hi a b) (lo a b) + if a = y ∧ b = x then 1 else 0 := by
        have h1 : (S R fun a => S C fun b => kc (L a) (O b) (f a b) (f a b)) ≤ S R fun a => S C fun b => kc (L a) (O b) (hi a b) (lo a b) + if a = y ∧ b = x then 1 else 0 := S_le R fun a ha => S_le C fun b hb => hcell a b ha hb
        have h2 : (S R fun a => S C fun b => kc (L a) (O b) (hi a b) (lo a b) + if a = y ∧ b = x then 1 else 0) = (S R fun a => S C fun b => kc (L a) (O b) (hi a b) (lo a b)) + S R fun a => S C fun b => if a = y ∧ b = x then (1 : Int) else 0 := by
          rw [← S_add]
          exact S_congr R fun a _ => by rw [← S_add]
        rw [hone] at h2
        unfold over at hov
        rw [over_img (fun _ _ => rfl) (fun _ _ => rfl) L O] at hov
        omega
      have heq := S2_eq_of_le R C hcell hsum
      have hcl : ClosedV R C f fun v => if v < R then !L v else !O (v - R) := by
        intro v w hv hw hXv he
        dsimp only at hXv ⊢
        unfold edge at he
        rw [Bool.or_eq_true] at he
        rcases he with he | he
        · simp only [Bool.and_eq_true, decide_eq_true_eq, beq_iff_eq] at he
          obtain ⟨h1, h2, h3⟩ := he
          rw [if_pos h1] at hXv
          rw [if_neg (show ¬ w < R by omega)]
          have h4 := heq v (w - R) h1 (by omega)
          obtain ⟨e1, e2⟩ := hlh v (w - R) h1 (by omega)
          rw [e1, e2] at h4
          unfold kc at h4
          cases hL : L v with
          | true => rw [hL] at hXv; cases hXv
          | false =>
            cases hO : O (w - R) with
            | false => rfl
            | true =>
              rw [hL, hO, h3] at h4
              by_cases e : v = y ∧ w - R = x
              · obtain ⟨rfl, rfl⟩ := e
                simp [h3] at h4
              · simp [e] at h4
        · simp only [Bool.and_eq_true, decide_eq_true_eq, beq_iff_eq] at he
          obtain ⟨h1, h2, h3⟩ := he
          rw [if_neg (show ¬ v < R by omega)] at hXv
          rw [if_pos h2]
          have h4 := heq w (v - R) h2 (by omega)
          obtain ⟨e1, e2⟩ := hlh w (v - R) h2 (by omega)
          rw [e1, e2] at h4
          unfold kc at h4
          cases hO : O (v - R) with
          | true => rw [hO] at hXv; cases hXv
          | false =>
            cases hL : L w with
            | false => rfl
            | true =>
              rw [hL, hO, h3] at h4
              by_cases e : w = y ∧ v - R = x
              · obtain ⟨rfl, rfl⟩ := e
                simp [h3] at h4
              · simp [e] at h4
      have h4 := heq y x hy hx
      obtain ⟨e1, e2⟩ := hlh y x hy hx
      rw [e1, e2] at h4
      unfold kc at h4
      simp only [and_self, if_true] at h4
      rcases h01 with h0 | h1
      · rw [if_neg (by omega)] at h
        rw [h0] at h4
        have h5 := h _ hcl
        simp only [hy, if_true, show ¬ R + x < R by omega, if_false, Nat.add_sub_cancel_left] at h5
        cases hL : L y <;> cases hO : O x <;> simp [hL, hO] at h4 h5
      · rw [if_pos h1] at h
        rw [h1] at h4
        have h5 := h _ hcl
        simp only [hy, if_true, show ¬ R + x < R by omega, if_false, Nat.add_sub_cancel_left] at h5
        cases hL : L y <;> cases hO : O x <;> simp [hL, hO] at h4 h5)
    refine ⟨g, fun a b ha hb => ?_, g2, g3, ?_⟩
    · have := g1 a b ha hb
      obtain ⟨e1, e2⟩ := hlh a b ha hb
      rw [e1, e2] at this
      split at this <;> omega
    · have := g1 y x hy hx
      obtain ⟨e1, e2⟩ := hlh y x hy hx
      rw [e1, e2] at this
      simp only [and_self, if_true] at this
      omega
  exact hbd (fun a b => if a = y ∧ b = x then 1 - f y x else 0) (fun a b => if a = y ∧ b = x then 1 - f y x else 1) fun _ _ _ _ => ⟨rfl, rfl⟩
/-- And the other way round. -/
theorem rch_of_free {g : Nat → Nat → Int} (hf : ∀ y x, y < R → x < C → f y x = 0 ∨ f y x = 1) {y x : Nat} (hy : y < R) (hx : x < C) (hg : ∀ y x, y < R → x < C → g y x = 0 ∨ g y x = 1) (hr : ∀ y, y < R → S C (g y) = S C (f y)) (hc : ∀ x, x < C → S R (fun y => g y x) = S R fun y => f y x)
    (hne : g y x = 1 - f y x) : if f y x = 1 then Rch R C f (R + x) y else Rch R C f y (R + x) := by
  have h01 := hf y x hy hx
  have key : ∀ X, ClosedV R C f X → X y = X (R + x) := fun X hX => by
    apply Classical.byContradiction
    intro h
    have := closed_fix hf hg hr hc hX y x hy hx h
    omega
  split
  · intro X hX h; rw [key X hX]; exact h
  · intro X hX h; rw [← key X hX]; exact h
end

/-- The search: vertex number a is under way, its edges to the vertices below k are done. -/
structure Rb (R C : Nat) (f : Nat → Nat → Int) (s : Nat) (q : List Nat) (a k : Nat) : Prop where
  nodup : q.Nodup
  mem : ∀ v ∈ q, v < R + C ∧ Rch R C f s v
  start : s ∈ q
  le : a ≤ q.length
  done : ∀ i, i < a → ∀ w, w < R + C → edge R f (q.getD i 0) w = true → w ∈ q
  half : a < q.length → ∀ w, w < k → w < R + C → edge R f (q.getD a 0) w = true → w ∈ q
theorem rb_start {R C : Nat} {f : Nat → Nat → Int} {s : Nat} (hs : s < R + C) : Rb R C f s [s] 0 0 :=
  ⟨by simp, fun v hv => by obtain rfl := List.mem_singleton.1 hv; exact ⟨hs, rch_refl _ _ _ _⟩, List.mem_singleton.2 rfl, Nat.zero_le _, fun i hi => absurd hi (Nat.not_lt_zero _), fun _ w hw => absurd hw (Nat.not_lt_zero _)⟩
section
variable {R C : Nat} {f : Nat → Nat → Int} {s : Nat} {q : List Nat} {a k : Nat}
theorem rb_len (h : Rb R C f s q a k) : q.length ≤ R + C := nodup_len _ q h.nodup fun v hv => (h.mem v hv).1
theorem rb_at (h : Rb R C f s q a k) (ha : a < q.length) : q.getD a 0 < R + C := (h.mem _ (getD_mem ha)).1
theorem rb_skip (h : Rb R C f s q a k) (hk : edge R f (q.getD a 0) k = true → k ∈ q) : Rb R C f s q a (k + 1) :=
  ⟨h.nodup, h.mem, h.start, h.le, h.done, fun ha w hw hw2 he => by
    by_cases e : w = k
    · subst e; exact hk he
    · exact h.half ha w (by omega) hw2 he⟩
theorem rb_push (h : Rb R C f s q a k) (ha : a < q.length) (hk : k < R + C) (he : edge R f (q.getD a 0) k = true) (hn : k ∉ q) : Rb R C f s (q ++ [k]) a (k + 1) := by
  refine ⟨?_, fun v hv => ?_, List.mem_append_left _ h.start, by have := h.le; simp; omega, fun i hi w hw he2 => ?_, fun _ w hw hw2 he2 => ?_⟩
  · rw [List.nodup_append]
    exact ⟨h.nodup, by simp, fun x hx y hy e => by obtain rfl := List.mem_singleton.1 hy; exact hn (e ▸ hx)⟩
  · rcases List.mem_append.1 hv with hv | hv
    · exact h.mem v hv
    · obtain rfl := List.mem_singleton.1 hv
      exact ⟨hk, rch_step (h.mem _ (getD_mem (d := 0) ha)).2 (rb_at h ha) hk he⟩
  · rw [getD_snoc_lt _ _ _ (by have := h.le; omega)] at he2
    exact List.mem_append_left _ (h.done i hi w hw he2)
  · rw [getD_snoc_lt _ _ _ ha] at he2
    by_cases e : w = k
    · subst e; exact List.mem_append_right _ (List.mem_singleton.2 rfl)
    · exact List.mem_append_left _ (h.half ha w (by omega) hw2 he2)
theorem rb_next (h : Rb R C f s q a (R + C)) (ha : a < q.length) : Rb R C f s q (a + 1) 0 :=
  ⟨h.nodup, h.mem, h.start, ha, fun i hi w hw he => by
    by_cases e : i = a
    · subst e; exact h.half ha w hw hw he
    · exact h.done i (by omega) w hw he, fun _ w hw => absurd hw (Nat.not_lt_zero _)⟩
theorem rb_end (h : Rb R C f s q q.length k) {v : Nat} : v ∈ q ↔ v < R + C ∧ Rch R C f s v := by
  refine ⟨h.mem v, fun ⟨_, hr⟩ => ?_⟩
  have hcl : ClosedV R C f fun v => decide (v ∈ q) := fun v w _ hw hv he => by
    rw [decide_eq_true_eq] at hv ⊢
    obtain ⟨i, hi, e⟩ := mem_getD 0 hv
    exact h.done i hi w hw (by rw [e]; exact he)
  have := hr _ hcl (decide_eq_true h.start)
  rwa [decide_eq_true_eq] at this
end
end Go.Proofs.YtbogeghoekmbhaaGreat
/-
  whiteImage.
-/
namespace Go.Proofs.YtbogeghoekmbhaaGreat
open Go.RowKit

def whiteF (r c : Int) (i : Nat) : Int := if r ≤ (i / 5 : Nat) ∨ c ≤ (i % 5 : Nat) then -1 else 0
def upF (F : Nat → Int) (k : Nat) (i : Nat) : Int := if i < k then F i else 0
theorem Tryz.zeroImg (w : World) : (zeroValue 77).run Tryz.prog w = .ok (.agg (vec 25 fun _ => 0)) w := Tryz.zeroValue77 w
theorem Tryz.zeroRow (w : World) : (zeroValue 75).run Tryz.prog w = .ok (.agg (vec 5 fun _ => 0)) w := Tryz.zeroValue75 w
theorem Tryz.sizeImg : (Tryz.prog.info? 77).map (·.size) = some 25 := by kernel_rfl
theorem Tryz.sizeRow : (Tryz.prog.info? 75).map (·.size) = some 5 := by kernel_rfl

theorem upF_zero (F : Nat → Int) : upF F 0 = fun _ => 0 := by funext i; simp [upF]
theorem upF_set (F : Nat → Int) (k : Nat) (v : Int) (h : F k = v) : (fun j => if j = k then v else upF F k j) = upF F (k + 1) := by
  funext j
  simp only [upF]
  by_cases e : j = k
  · subst e; simp [h]
  · rw [if_neg e]
    by_cases hl : j < k
    · rw [if_pos hl, if_pos (by omega)]
    · rw [if_neg hl, if_neg (by omega)]
theorem upF_skip (F : Nat → Int) (k : Nat) (h : F k = 0) : upF F k = upF F (k + 1) := by
  funext j
  simp only [upF]
  by_cases hl : j < k
  · rw [if_pos hl, if_pos (by omega)]
  · by_cases e : j = k
    · subst e; simp [h]
    · rw [if_neg hl, if_neg (by omega)]
theorem upF_all (F : Nat → Int) (n k : Nat) (h : n ≤ k) : ∀ i, i < n → upF F k i = F i := fun i hi => by rw [upF, if_pos (by omega)]
theorem whiteF_at (r c : Int) (y x : Nat) (h : x < 5) : whiteF r c (5 * y + x) = if r ≤ (y : Nat) ∨ c ≤ (x : Nat) then -1 else 0 := by
  rw [whiteF, show (5 * y + x) / 5 = y by omega, show (5 * y + x) % 5 = x by omega]

set_option maxHeartbeats 400000 in
theorem whiteImage_any (r c : Int) (w : World) :
    Calls Tryz.prog 95 #[.int .i64 r, .int .i64 c] w fun e w' => e = .returned (.agg (vec 25 (whiteF r c))) ∧ Below w.heap.size w w' := by
  go_enter Tryz.func95, Tryz.ntmps95
  go_wp2_with (first | (with_reducible refine wpList_allocVec 25 4 rfl rfl rfl Tryz.zeroImg ?_; intro w1 h1 b1 s1) | (with_reducible refine wpList_allocVec 25 5 rfl rfl rfl Tryz.zeroImg ?_; intro w2 h2 b2 s2))
  rw [s1] at h2
  have b1' := b1.trans (b2.mono (by omega))
  have h1 := blk_below h1 b2
  have s2 : w2.heap.size = w.heap.size + 2 := by omega
  clear b1 s1 b2
  go_loopw [8] (fun i w' => ∃ y : Nat, y ≤ 5 ∧ i = .int .i64 y ∧ Blk w' (w.heap.size + 1) 77 25 (upF (whiteF r c) (5 * y)) ∧ Blk w' w.heap.size 77 25 (fun _ => 0) ∧ Below w.heap.size w w') (fun i _ => 5 - (intOf i).toNat)
  case atStart => exact ⟨0, by omega, rfl, by rw [Nat.mul_zero, upF_zero]; exact h2, h1, b1'⟩
  case round =>
    clear h1 h2 b1' s2
    obtain ⟨y, hy, rfl, hp, hr, hb⟩ := hrel
    by_cases hlt : y < 5
    · have hyI : (y : Int) < 5 := by omega
      go_wp2
      go_loopw [11] (fun i w' => ∃ x : Nat, x ≤ 5 ∧ i = .int .i64 x ∧ Blk w' (w.heap.size + 1) 77 25 (upF (whiteF r c) (5 * y + x)) ∧ Blk w' w.heap.size 77 25 (fun _ => 0) ∧ Below w.heap.size w w') (fun i _ => 5 - (intOf i).toNat)
      case atStart => exact ⟨0, by omega, rfl, hp, hr, hb⟩
      case round =>
        clear hp hr hb
        obtain ⟨x, hx, rfl, hp, hr, hb⟩ := hrel
        by_cases hlx : x < 5
        · by_cases hc : r ≤ (y : Int) ∨ c ≤ (x : Int)
          · have HS := hide (upF_set (whiteF r c) (5 * y + x) (-1) (by rw [whiteF_at r c y x hlx, if_pos hc]))
            have hcl := blk_cell hp (5 * y + x) (by omega)
            have hfr := blk_frozen hp (5 * y + x)
            have HA : Hid (0 + y * 5 + x * 1 = 5 * y + x) := hide (by omega)
            by_cases h1 : r ≤ (y : Int)
            all_goals
              try have h2 : c ≤ (x : Int) := by omega
              clear hc
              go_wp2_with (first | (with_reducible refine wpList_indexAt y 24 rfl rfl _ _ rfl rfl rfl Tryz.underlying77 Tryz.sizeOf75 hlt ?_) | (with_reducible refine wpList_indexAt x 25 rfl rfl _ _ rfl rfl rfl Tryz.underlying75 Tryz.sizeOf3 hlx ?_; rw [HA.out]))
              go_roundw
              case rel => exact ⟨x + 1, by omega, by go_num, by have := blk_set hp (5 * y + x) (-1); rw [HS.out] at this; exact this, blk_other hr _ _ (by simp), hb.setCell (by simp) _⟩
              case measure => simp [intOf]; omega
          · have h1 : (y : Int) < r := by omega
            have h2 : (x : Int) < c := by omega
            have HS := hide (upF_skip (whiteF r c) (5 * y + x) (by rw [whiteF_at r c y x hlx, if_neg hc]))
            clear hc
            go_wp2
            go_roundw
            case rel => exact ⟨x + 1, by omega, by go_num, by rw [HS.out] at hp; exact hp, hr, hb⟩
            case measure => simp [intOf]; omega
        · obtain rfl : x = 5 := by omega
          go_wp2
          go_roundw
          case rel => exact ⟨y + 1, by omega, by go_num, by rw [show 5 * (y + 1) = 5 * y + 5 by omega]; exact hp, hr, hb⟩
          case measure => simp [intOf]; omega
    · obtain rfl : y = 5 := by omega
      have hp := blk_congr hp (upF_all (whiteF r c) 25 (5 * 5) (by omega))
      go_wp2_with (first | (with_reducible refine wpList_loadVec hp 28 rfl rfl _ rfl rfl Tryz.underlying77 Tryz.sizeImg ?_) | (with_reducible refine wpList_storeVec hr rfl (.tmp 4) (.tmp 28) rfl rfl rfl Tryz.sizeImg ?_; intro w4 h4 g4 s4))
      refine bodyPost_ret (results_cell_row rfl _ _ w.heap.size 77 _ (0, 0) _ rfl h4 Tryz.underlying77 rfl (by rw [vec_size]; exact Tryz.sizeImg)) rfl ⟨rfl, ?_⟩
      exact hb.trans (grown_below g4 (fun k hk => by cases hk; exact Nat.le_refl _) hb.size)
end Go.Proofs.YtbogeghoekmbhaaGreat
