/-
  Texts of this claim, one behind the other: RowS, Swap, Agg, Ov.
-/
import Derived.Test.YtnhijmhambggbaaPackE
import Derived.Test.YtnhijmhambggbaaPackB
import Derived.Test.YtnhijmhambggbaaPackA
import Derived.Great.BuildSlice
import Derived.Deep.AppendLies
import Derived.Test.YtnhijmhambggbaaPackC
/-
  RowSums of both.
-/
namespace Go.Proofs.Ytnhijmhambggbaa
open Go.RowKit

theorem alongRows_any (w : World) : Calls Try.prog 54 #[] w fun e w' => e = .returned (.agg #[.int .i64 1, .int .i64 0]) ∧ Below w.heap.size w w' := by
  go_enter Try.func54, Try.ntmps54
  go_wp2
  exact bodyPost_ret (v := .agg #[.int .i64 1, .int .i64 0]) (by simp [results, Try.results54, go_sem]) rfl ⟨rfl, (Below.refl _ _).alloc (Nat.le_refl _) _⟩
theorem alongCols_any (w : World) : Calls Try.prog 78 #[] w fun e w' => e = .returned (.agg #[.int .i64 0, .int .i64 1]) ∧ Below w.heap.size w w' := by
  go_enter Try.func78, Try.ntmps78
  go_wp2
  exact bodyPost_ret (v := .agg #[.int .i64 0, .int .i64 1]) (by simp [results, Try.results78, go_sem]) rfl ⟨rfl, (Below.refl _ _).alloc (Nat.le_refl _) _⟩

theorem implRowSums_no (v : Value) (m : List (List Int)) (w : World) (hin : InMat w v m) (h : okB m = false) :
    Calls Try.prog 13 #[v] w (IntsRes [] w) := by
  have HI := hide hin; have H := hide h
  clear hin h
  go_enter Try.func13, Try.ntmps13
  go_wp2_with fail
  refine (alongRows_any _).mono ?_
  rintro e w1 ⟨rfl, hb⟩
  have HB := hide hb
  clear hb
  go_wp2_with fail
  refine (implLineSums_img v m 1 0 _ (inMat_below HI.out HB.out) H.out).mono ?_
  rintro e w2 ⟨u, rfl, ho, hb⟩
  have HO := hide (own_base ho HB.out.size); have HB2 := hide (HB.out.trans (hb.mono HB.out.size))
  clear ho hb
  go_wp2
  go_ret
  exact ⟨_, rfl, HO.out, HB2.out⟩
theorem implRowSums_yes (v : Value) (R C : Nat) (f : Nat → Nat → Int) (w : World) (hin : InMat w v (mkM R C f)) (hI : Img R C f) :
    Calls Try.prog 13 #[v] w (IntsRes (rowsL R C f) w) := by
  have HI := hide hin; have H := hide hI
  rw [← lineRow_rows]
  clear hin hI
  go_enter Try.func13, Try.ntmps13
  go_wp2_with fail
  refine (alongRows_any _).mono ?_
  rintro e w1 ⟨rfl, hb⟩
  have HB := hide hb
  clear hb
  go_wp2_with fail
  refine (implLineSums_yes v R C R f 1 0 _ (inMat_below HI.out HB.out) H.out (by decide) (countL_rows R C).symm (by have := H.out.r2; omega)).mono ?_
  rintro e w2 ⟨u, rfl, ho, hb⟩
  have HO := hide (own_base ho HB.out.size); have HB2 := hide (HB.out.trans (hb.mono HB.out.size))
  clear ho hb
  go_wp2
  go_ret
  exact ⟨_, rfl, HO.out, HB2.out⟩

set_option maxHeartbeats 400000 in
theorem specRowSums_no (v : Value) (m : List (List Int)) (w : World) (hin : InMat w v m) (h : okB m = false) :
    Calls Try.prog 120 #[v] w (IntsRes [] w) := by
  have HI := hide hin; have H := hide h
  clear hin h
  go_enter Try.func120, Try.ntmps120
  go_wp2_with ((with_reducible refine (specImageOk_any v m _ HI.out).mono ?_); rw [H.out]; rintro e w' ⟨rfl, rfl⟩)
  go_ret
  exact intsRes_nil (Below.refl _ _)
set_option maxHeartbeats 1000000 in
theorem specRowSums_yes (v : Value) (R C : Nat) (f : Nat → Nat → Int) (w : World) (hin : InMat w v (mkM R C f)) (hI : Img R C f) :
    Calls Try.prog 120 #[v] w (IntsRes (rowsL R C f) w) := by
  have HM := hide hin; have H := hide hI
  obtain ⟨g, o, cap, rfl, hg, hrow⟩ := inMat_img hin (by have := hI.r1; omega) (by have := hI.c1; omega)
  have HROW := hide hrow
  obtain ⟨r1, r2, c1, c2, -⟩ := hI
  clear hin hrow
  go_enter Try.func120, Try.ntmps120
  go_wp2_with ((with_reducible refine (specImageOk_any _ _ _ HM.out).mono ?_); rw [img_ok H.out]; rintro e w' ⟨rfl, rfl⟩)
  have HO0 : Hid ((w.alloc (.cells #[] 3)).ownsRow w.heap.size 3 1 (.slice (some ⟨w.heap.size, 0, none⟩) 0 0) 0 []) := hide (World.ownsRow_made (base := w.heap.size) w #[] 0 (Nat.le_refl _) (Nat.zero_le _) rfl)
  have HB0 := hide ((Below.refl w.heap.size w).alloc (Nat.le_refl _) (.cells #[] 3))
  go_loopw [3, 15] (fun s i wr => ∃ y : Nat, y ≤ R ∧ i = .int .i64 y ∧ wr.ownsRow w.heap.size 3 1 s y (ints (rowF y fun k => (rs C f k : Nat))) ∧ Below w.heap.size w wr) (fun _ i _ => R - (intOf i).toNat)
  case atStart => exact ⟨0, Nat.zero_le _, rfl, HO0.out, HB0.out⟩
  case round =>
    obtain ⟨y, hy, rfl, ho, hb⟩ := hrel
    have HB := hide hb
    obtain ⟨sa, sc, rfl⟩ := own_slice ho
    have HO := hide ho
    have hsz := hb.size
    clear ho hb
    by_cases hly : y < R
    · obtain ⟨g', o', c', hcr, hg', hcell⟩ := HROW.out y hly
      have hcr := below_cell HB.out hg hcr
      have HCELL := hide hcell
      clear hcell
      go_wp2
      go_loop [6, 21] (fun n i => ∃ x : Nat, x ≤ C ∧ i = .int .i64 x ∧ n = .int .i64 (cnt (fun x => f y x == 1) x : Nat)) (fun _ i => C - (intOf i).toNat)
      case atStart => exact ⟨0, Nat.zero_le _, rfl, rfl⟩
      case round =>
        obtain ⟨x, hx, rfl, rfl⟩ := hrel
        have hcl := cnt_le (fun x => f y x == 1) x
        by_cases hlx : x < C
        · have hcx := below_cell HB.out hg' (HCELL.out x hlx)
          have HST := hide (rs_cell H.out hly hlx)
          have hf : 0 ≤ f y x ∧ f y x ≤ 1 := by rcases H.out.cell y x hly hlx with e | e <;> rw [e] <;> decide
          obtain ⟨hf0, hf1⟩ := hf
          obtain ⟨z, hz⟩ : ∃ z, z = f y x := ⟨_, rfl⟩
          obtain ⟨q, hq⟩ : ∃ q, q = cnt (fun x => f y x == 1) x := ⟨_, rfl⟩
          rw [← hz] at hcx HST hf0 hf1
          rw [← hq] at HST hcl ⊢
          clear hz hq
          go_wp2
          go_round
          case rel => exact ⟨x + 1, by omega, by go_num, by rw [HST.out]⟩
          case measure => simp [intOf]; omega
        · obtain rfl : x = C := by omega
          obtain ⟨q, hq⟩ : ∃ q, q = cnt (fun z => f y z == 1) x := ⟨_, rfl⟩
          have HQ := hide (show q = rs x f y from hq)
          rw [← hq] at hcl ⊢
          clear hq
          go_wp2_with (at_builtin; refine wpList_push HO.out (.int .i64 q) (.int .i64 0) rfl _ _ rfl Try.underlying25 Try.infoInt rfl (by decide) rfl rfl rfl (by omega) (by omega) ?_; intro v' w6 hown1 hb1 hg1)
          go_roundw
          case rel =>
            refine ⟨y + 1, by omega, by go_num, ?_, HB.out.trans hb1⟩
            have e : ints (rowF (y + 1) fun k => ((rs x f k : Nat) : Int)) = ints (rowF y fun k => ((rs x f k : Nat) : Int)) ++ [.int .i64 q] := by
              rw [HQ.out]; simp [ints, rowF, List.range_succ]
            rw [e]; exact hown1
          case measure => simp [intOf]; omega
    · obtain rfl : y = R := by omega
      go_wp2
      go_ret
      exact ⟨_, rfl, by rw [rowsL, rowF_len]; exact HO.out, HB.out⟩
end Go.Proofs.Ytnhijmhambggbaa
/-
  Switches, pure: the four cells, an image after a switch, lists of switches in order, paths.
-/
namespace Go.Proofs.Ytnhijmhambggbaa

/-- A switch: two rows and two columns. -/
structure Sw where
  y1 : Int
  y2 : Int
  x1 : Int
  x2 : Int
instance : DecidableEq Sw := fun a b =>
  if h : a.y1 = b.y1 ∧ a.y2 = b.y2 ∧ a.x1 = b.x1 ∧ a.x2 = b.x2 then isTrue (by obtain ⟨a1, a2, a3, a4⟩ := a; obtain ⟨b1, b2, b3, b4⟩ := b; simp only at h; obtain ⟨rfl, rfl, rfl, rfl⟩ := h; rfl)
  else isFalse fun e => h (by rw [e]; exact ⟨rfl, rfl, rfl, rfl⟩)
def zeroSw : Sw := ⟨0, 0, 0, 0⟩
/-- The cell of a list. -/
def cellM (m : List (List Int)) (y x : Nat) : Int := (m.getD y []).getD x 0
theorem cell_mk (R C : Nat) (f : Nat → Nat → Int) {y x : Nat} (hy : y < R) (hx : x < C) : cellM (mkM R C f) y x = f y x := by
  simp [cellM, mkM, rowF, hy, hx]
theorem mk_cell (R C : Nat) (f : Nat → Nat → Int) : mkM R C (cellM (mkM R C f)) = mkM R C f := mkM_congr fun _ _ hy hx => cell_mk R C f hy hx
/-- The four cells of a switch, by number. -/
def four (R C : Nat) (f : Nat → Nat → Int) (a b c d : Nat) : Bool :=
  decide (a < b) && decide (c < d) && decide (b < R) && decide (d < C) && decide (f b d = f a c) && decide (f a d = 1 - f a c) && decide (f b c = 1 - f a c)
theorem four_iff {R C : Nat} {f : Nat → Nat → Int} {a b c d : Nat} : four R C f a b c d = true ↔ a < b ∧ c < d ∧ b < R ∧ d < C ∧ f b d = f a c ∧ f a d = 1 - f a c ∧ f b c = 1 - f a c := by
  simp [four, Bool.and_eq_true, and_assoc]
/-- A switch of an image. -/
def swF (R C : Nat) (f : Nat → Nat → Int) (s : Sw) : Bool :=
  decide (0 ≤ s.y1) && decide (0 ≤ s.x1) && decide (s.y1 < s.y2) && decide (s.x1 < s.x2) && four R C f s.y1.toNat s.y2.toNat s.x1.toNat s.x2.toNat
theorem swF_iff {R C : Nat} {f : Nat → Nat → Int} {s : Sw} : swF R C f s = true ↔ ∃ a b c d : Nat, s = ⟨a, b, c, d⟩ ∧ four R C f a b c d = true := by
  constructor
  · intro h
    simp only [swF, Bool.and_eq_true, decide_eq_true_eq] at h
    obtain ⟨⟨⟨⟨h1, h2⟩, h3⟩, h4⟩, h5⟩ := h
    refine ⟨_, _, _, _, ?_, h5⟩
    obtain ⟨y1, y2, x1, x2⟩ := s
    simp only at h1 h2 h3 h4 ⊢
    rw [Int.toNat_of_nonneg h1, Int.toNat_of_nonneg (by omega), Int.toNat_of_nonneg h2, Int.toNat_of_nonneg (by omega)]
  · rintro ⟨a, b, c, d, rfl, h⟩
    have := four_iff.1 h
    simp only [swF, Bool.and_eq_true, decide_eq_true_eq]
    exact ⟨⟨⟨⟨by omega, by omega⟩, by omega⟩, by omega⟩, by simpa using h⟩
theorem four_congr {R C : Nat} {f g : Nat → Nat → Int} (h : ∀ y x, y < R → x < C → f y x = g y x) (a b c d : Nat) : four R C f a b c d = four R C g a b c d := by
  rw [Bool.eq_iff_iff, four_iff, four_iff]
  constructor
  · rintro ⟨h1, h2, h3, h4, h5⟩
    rw [h b d h3 h4, h a c (by omega) (by omega), h a d (by omega) h4, h b c h3 (by omega)] at h5
    exact ⟨h1, h2, h3, h4, h5⟩
  · rintro ⟨h1, h2, h3, h4, h5⟩
    rw [← h b d h3 h4, ← h a c (by omega) (by omega), ← h a d (by omega) h4, ← h b c h3 (by omega)] at h5
    exact ⟨h1, h2, h3, h4, h5⟩
theorem swF_congr {R C : Nat} {f g : Nat → Nat → Int} (h : ∀ y x, y < R → x < C → f y x = g y x) (s : Sw) : swF R C f s = swF R C g s := by
  unfold swF; rw [four_congr h]
/-- The cells after a switch. -/
def flipN (f : Nat → Nat → Int) (a b c d : Nat) (y x : Nat) : Int := if (y = a ∨ y = b) ∧ (x = c ∨ x = d) then 1 - f y x else f y x
def flipF (f : Nat → Nat → Int) (s : Sw) : Nat → Nat → Int := flipN f s.y1.toNat s.y2.toNat s.x1.toNat s.x2.toNat
theorem flipN_img {R C : Nat} {f : Nat → Nat → Int} (h : Img R C f) (a b c d : Nat) : Img R C (flipN f a b c d) :=
  ⟨h.r1, h.r2, h.c1, h.c2, fun y x hy hx => by unfold flipN; split <;> rcases h.cell y x hy hx with e | e <;> simp [e]⟩
theorem flipF_img {R C : Nat} {f : Nat → Nat → Int} (h : Img R C f) (s : Sw) : Img R C (flipF f s) := flipN_img h _ _ _ _
theorem flipN_flip (f : Nat → Nat → Int) (a b c d : Nat) : flipN (flipN f a b c d) a b c d = f := by
  funext y x
  unfold flipN
  by_cases h : (y = a ∨ y = b) ∧ (x = c ∨ x = d)
  · rw [if_pos h, if_pos h]; omega
  · rw [if_neg h, if_neg h]
theorem flipF_flip (f : Nat → Nat → Int) (s : Sw) : flipF (flipF f s) s = f := flipN_flip f _ _ _ _
theorem flipN_congr {R C : Nat} {f g : Nat → Nat → Int} (h : ∀ y x, y < R → x < C → f y x = g y x) (a b c d : Nat) : ∀ y x, y < R → x < C → flipN f a b c d y x = flipN g a b c d y x := by
  intro y x hy hx; unfold flipN; rw [h y x hy hx]
theorem four_flip {R C : Nat} {f : Nat → Nat → Int} {a b c d : Nat} (h : four R C f a b c d = true) : four R C (flipN f a b c d) a b c d = true := by
  have := four_iff.1 h
  refine four_iff.2 ⟨this.1, this.2.1, this.2.2.1, this.2.2.2.1, ?_⟩
  unfold flipN
  simp
  omega
theorem swF_flip {R C : Nat} {f : Nat → Nat → Int} {s : Sw} (h : swF R C f s = true) : swF R C (flipF f s) s = true := by
  obtain ⟨a, b, c, d, rfl, h'⟩ := swF_iff.1 h
  exact swF_iff.2 ⟨a, b, c, d, rfl, by simpa [flipF] using four_flip h'⟩

/-- The same of lists. -/
def swB (m : List (List Int)) (s : Sw) : Bool := swF m.length (widthM m) (cellM m) s
def flipM (m : List (List Int)) (s : Sw) : List (List Int) := mkM m.length (widthM m) (flipF (cellM m) s)
theorem swB_mk {R C : Nat} {f : Nat → Nat → Int} (h : Img R C f) (s : Sw) : swB (mkM R C f) s = swF R C f s := by
  have := h.r1
  unfold swB
  rw [mkM_len, width_mkM (by omega)]
  exact swF_congr (fun y x hy hx => cell_mk R C f hy hx) s
theorem flipM_mk {R C : Nat} {f : Nat → Nat → Int} (h : Img R C f) (s : Sw) : flipM (mkM R C f) s = mkM R C (flipF f s) := by
  have := h.r1
  unfold flipM
  rw [mkM_len, width_mkM (by omega)]
  exact mkM_congr (flipN_congr (fun y x hy hx => cell_mk R C f hy hx) _ _ _ _)

/-- A node: a list that is a valid image of this size. -/
def Node (R C : Nat) (m : List (List Int)) : Prop := ∃ f, m = mkM R C f ∧ Img R C f
theorem node_flip {R C : Nat} {m : List (List Int)} (h : Node R C m) (s : Sw) : Node R C (flipM m s) := by
  obtain ⟨f, rfl, h⟩ := h
  exact ⟨_, flipM_mk h s, flipF_img h s⟩
theorem flip_back {R C : Nat} {m : List (List Int)} (h : Node R C m) (s : Sw) : flipM (flipM m s) s = m := by
  obtain ⟨f, rfl, h⟩ := h
  rw [flipM_mk h, flipM_mk (flipF_img h s), flipF_flip]
theorem swB_back {R C : Nat} {m : List (List Int)} (h : Node R C m) {s : Sw} (hs : swB m s = true) : swB (flipM m s) s = true := by
  obtain ⟨f, rfl, h⟩ := h
  rw [swB_mk h] at hs
  rw [flipM_mk h, swB_mk (flipF_img h s)]
  exact swF_flip hs

/-- Switches one after the other. -/
def goM : List (List Int) → List Sw → Option (List (List Int))
  | m, [] => some m
  | m, s :: p => if swB m s then goM (flipM m s) p else none
theorem goM_append (m : List (List Int)) (p q : List Sw) : goM m (p ++ q) = (goM m p).bind fun t => goM t q := by
  induction p generalizing m with
  | nil => rfl
  | cons s p ih =>
    simp only [List.cons_append, goM]
    split
    · exact ih _
    · rfl
theorem goM_snoc {m t : List (List Int)} {p : List Sw} {s : Sw} (h : goM m p = some t) (hs : swB t s = true) : goM m (p ++ [s]) = some (flipM t s) := by
  rw [goM_append, h]
  simp [goM, hs]
theorem goM_unsnoc {m u : List (List Int)} {p : List Sw} {s : Sw} (h : goM m (p ++ [s]) = some u) : ∃ t, goM m p = some t ∧ swB t s = true ∧ u = flipM t s := by
  rw [goM_append] at h
  cases ht : goM m p with
  | none => rw [ht] at h; cases h
  | some t =>
    rw [ht] at h
    simp only [Option.bind_some, goM] at h
    split at h
    · rename_i hs; exact ⟨t, rfl, hs, (Option.some.inj h).symm⟩
    · cases h
theorem goM_node {R C : Nat} {m t : List (List Int)} {p : List Sw} (hm : Node R C m) (h : goM m p = some t) : Node R C t := by
  induction p generalizing m with
  | nil => cases h; exact hm
  | cons s p ih =>
    simp only [goM] at h
    split at h
    · exact ih (node_flip hm s) h
    · cases h
theorem goM_rev {R C : Nat} {m t : List (List Int)} {p : List Sw} (hm : Node R C m) (h : goM m p = some t) : goM t p.reverse = some m := by
  induction p generalizing m with
  | nil => cases h; rfl
  | cons s p ih =>
    simp only [goM] at h
    split at h
    · rename_i hs
      rw [List.reverse_cons]
      have := goM_snoc (ih (node_flip hm s) h) (swB_back hm hs)
      rw [flip_back hm s] at this
      exact this
    · cases h

/-- A switch by its number, and its number. -/
def decS (i : Nat) : Sw := ⟨((i / 125 : Nat) : Int), ((i / 25 % 5 : Nat) : Int), ((i / 5 % 5 : Nat) : Int), ((i % 5 : Nat) : Int)⟩
def codeS (s : Sw) : Int := ((s.y1 * 5 + s.y2) * 5 + s.x1) * 5 + s.x2
theorem code_dec (i : Nat) : codeS (decS i) = i := by unfold codeS decS; simp only; omega
/-- The switches up to a number, in order. -/
def upS (m : List (List Int)) (k : Nat) : List Sw := ((List.range k).filter fun i => swB m (decS i)).map decS
theorem upS_zero (m : List (List Int)) : upS m 0 = [] := rfl
theorem upS_yes {m : List (List Int)} {k : Nat} (h : swB m (decS k) = true) : upS m (k + 1) = upS m k ++ [decS k] := by
  unfold upS; rw [List.range_succ, List.filter_append, List.map_append]; simp [h]
theorem upS_no {m : List (List Int)} {k : Nat} (h : swB m (decS k) = false) : upS m (k + 1) = upS m k := by
  unfold upS; rw [List.range_succ, List.filter_append, List.map_append]; simp [h]
theorem upS_skip {m : List (List Int)} {k l : Nat} (hkl : k ≤ l) (h : ∀ i, k ≤ i → i < l → swB m (decS i) = false) : upS m l = upS m k := by
  induction l with
  | zero => obtain rfl : k = 0 := by omega
            rfl
  | succ l ih =>
    by_cases e : k = l + 1
    · rw [e]
    · rw [upS_no (h l (by omega) (by omega)), ih (by omega) fun i h1 h2 => h i h1 (by omega)]
def swsM (m : List (List Int)) : List Sw := upS m 625
theorem upS_len (m : List (List Int)) (k : Nat) : (upS m k).length ≤ k := by
  unfold upS; rw [List.length_map]
  exact Nat.le_trans (List.length_filter_le _ _) (by rw [List.length_range]; exact Nat.le_refl _)
theorem upS_mem {m : List (List Int)} {k : Nat} {s : Sw} (h : s ∈ upS m k) : swB m s = true ∧ ∃ i, i < k ∧ s = decS i := by
  unfold upS at h
  simp only [List.mem_map, List.mem_filter, List.mem_range] at h
  obtain ⟨i, ⟨h1, h2⟩, rfl⟩ := h
  exact ⟨h2, i, h1, rfl⟩
theorem sws_mem {R C : Nat} {m : List (List Int)} (hm : Node R C m) {s : Sw} : s ∈ swsM m ↔ swB m s = true := by
  refine ⟨fun h => (upS_mem h).1, fun h => ?_⟩
  obtain ⟨f, rfl, hI⟩ := hm
  have h0 := h
  rw [swB_mk hI] at h
  obtain ⟨a, b, c, d, rfl, hf⟩ := swF_iff.1 h
  have hf := four_iff.1 hf
  have := hI.r2; have := hI.c2
  unfold swsM upS
  simp only [List.mem_map, List.mem_filter, List.mem_range]
  have e : decS (((a * 5 + b) * 5 + c) * 5 + d) = ⟨a, b, c, d⟩ := by
    unfold decS
    rw [show (((a * 5 + b) * 5 + c) * 5 + d) / 125 = a by omega, show (((a * 5 + b) * 5 + c) * 5 + d) / 25 % 5 = b by omega, show (((a * 5 + b) * 5 + c) * 5 + d) / 5 % 5 = c by omega, show (((a * 5 + b) * 5 + c) * 5 + d) % 5 = d by omega]
  exact ⟨((a * 5 + b) * 5 + c) * 5 + d, ⟨by omega, by rw [e]; exact h0⟩, e⟩
/-- One switch comes before another. -/
def swlt (a b : Sw) : Prop := codeS a < codeS b
theorem upS_sorted (m : List (List Int)) (k : Nat) : (upS m k).Pairwise swlt := by
  unfold upS
  rw [List.pairwise_map]
  refine List.Pairwise.imp ?_ (List.Pairwise.filter _ (List.pairwise_lt_range (n := k)))
  intro a b h
  unfold swlt; rw [code_dec, code_dec]; omega
end Go.Proofs.Ytnhijmhambggbaa
/-
  Slices whose elements have several cells: what a call owns, a literal of one element, append.
-/
namespace Go.Proofs.Ytnhijmhambggbaa
open Go.RowKit

theorem ownA_below {w w' : World} {base e n z : Nat} {v : Value} {xs : List Value} (h : w.ownsRow base e z v n xs) (hb : Below w.heap.size w w') : w'.ownsRow base e z v n xs := by
  refine ⟨h.1, ?_⟩
  rcases h.2 with hn | ⟨g, cap, cur, hv, hbg, hg, r⟩
  · exact .inl hn
  · exact .inr ⟨g, cap, cur, hv, hbg, by rw [hb.block g (Array.getElem?_eq_some_iff.1 hg).1]; exact hg, r⟩
theorem ownA_base {w : World} {base base' e n z : Nat} {v : Value} {xs : List Value} (h : w.ownsRow base e z v n xs) (hb : base' ≤ base) : w.ownsRow base' e z v n xs := by
  refine ⟨h.1, ?_⟩
  rcases h.2 with hn | ⟨g, cap, cur, hv, hbg, hg, r⟩
  · exact .inl hn
  · exact .inr ⟨g, cap, cur, hv, by omega, hg, r⟩
theorem ownA_slice {w : World} {base e n z : Nat} {v : Value} {xs : List Value} (h : w.ownsRow base e z v n xs) : ∃ a cap, v = .slice a n cap := by
  rcases h.2 with ⟨rfl, rfl⟩ | ⟨g, cap, cur, rfl, _⟩
  · exact ⟨_, _, rfl⟩
  · exact ⟨_, _, rfl⟩
theorem ownA_some {w : World} {base e n z : Nat} {v : Value} {xs : List Value} (h : w.ownsRow base e z v n xs) (hn : 0 < n) :
    ∃ g cap, v = .slice (some ⟨g, 0, none⟩) n cap ∧ base ≤ g ∧ g < w.heap.size ∧ n ≤ cap ∧ cap ≤ maxLen ∧ (∀ j, j < n * z → w.cell? ⟨g, j, none⟩ = xs[j]?) ∧ (∀ j, w.frozen? ⟨g, j, none⟩ = false) := by
  rcases h.2 with ⟨_, h0⟩ | ⟨g, cap, cur, rfl, hbg, hg, hc, hm, _⟩
  · omega
  · exact ⟨g, cap, rfl, hbg, (Array.getElem?_eq_some_iff.1 hg).1, hc, hm, fun j hj => h.cellAt j hj, fun j => h.frozenAt j⟩
theorem ownA_types {w : World} {b1 b2 e1 e2 n1 n2 z1 z2 : Nat} {v1 v2 : Value} {xs ys : List Value} (h1 : w.ownsRow b1 e1 z1 v1 n1 xs) (h2 : w.ownsRow b2 e2 z2 v2 n2 ys) (hne : e1 ≠ e2) : v1.ownBlock = none ∨ v1.ownBlock ≠ v2.ownBlock := by
  rcases h1.2 with ⟨rfl, _⟩ | ⟨g1, c1, cur1, rfl, _, hg1, _⟩
  · exact .inl rfl
  · rcases h2.2 with ⟨rfl, _⟩ | ⟨g2, c2, cur2, rfl, _, hg2, _⟩
    · exact .inr (by simp [Value.ownBlock])
    · refine .inr fun e => ?_
      simp only [Value.ownBlock, Option.some.injEq] at e
      subst e
      rw [hg1] at hg2
      simp only [Option.some.injEq, Obj.cells.injEq] at hg2
      exact hne hg2.2.1
theorem ownA_grown {w w' : World} {base e n z : Nat} {v : Value} {xs : List Value} {row : Option Nat} (h : w.ownsRow base e z v n xs) (hg : w.grownBy w' row) (hr : ∀ k, row = some k → v.ownBlock ≠ some k) : w'.ownsRow base e z v n xs := by
  refine h.kept hg ?_
  cases hv : v.ownBlock with
  | none => exact .inl rfl
  | some k =>
    right
    cases row with
    | none => simp
    | some q => intro e; cases e; exact hr _ rfl hv

/-- '[]T{x}', x of some cells. -/
theorem wpList_buildOneA {P : Program} {ops : Array Oper} {rest : List Oper} {o : Oper} {a : Act} {Q : Exit → Act → World → Prop} {W : World} {T E : TypeId} {z bytes : Nat} (cs : Array Value) (zv : Value) (d : Tmp) (_hd : o.dst = some d) (hgd : o.guard = none) (x : Operand) (ho : o.op = .buildSlice T 1 #[(0, x)])
    (hx : a.eval x = .agg cs) (ht : P.underlying T = some (.slice E)) (hinfo : (P.info? E).map (fun i => (i.zero, i.size, i.bytes)) = some (some zv, z, bytes)) (hz : 0 < z) (hz2 : z ≤ 1000) (hcs : cs.size = z)
    (h : wpList P ops Q rest (a.put o.dst (.slice (some ⟨W.heap.size, 0, none⟩) 1 1)) (W.alloc (.cells cs E))) : wpList P ops Q (o :: rest) a W := by
  obtain ⟨i0, hi, hz0, hz1, -⟩ := info_parts hinfo
  refine wpList_buildSlice hgd T E 1 _ ho cs i0 zv ht hi hz0 (by rw [hz1]; omega) (by rw [hz1]; omega) ?_ h
  rw [hz1]
  have := Go.Great.fill_whole (s := z) hz [.agg cs] ((Array.range (1 * z)).map (zv.cells[· % zv.cells.size]!)) (by simpa [Value.cells] using hcs) (by simp)
  simpa [hx, Value.cells] using this

/-- 'append(v, x)', x of some cells, laid just before. -/
theorem wpList_pushA {P : Program} {ops : Array Oper} {rest : List Oper} {o : Oper} {a : Act} {Q : Exit → Act → World → Prop} {W : World} {base n bytes z : Nat} {E T : TypeId} {v : Value} {xs : List Value}
    (hown : W.ownsRow base E z v n xs) (cs : Array Value) (zv : Value) (hgd : o.guard = none) (s x : Operand)
    (ho : o.op = .call { callee := .builtin .append, args := #[s, x], argTypes := #[T, T] })
    (ht : P.underlying T = some (.slice E)) (hinfo : (P.info? E).map (fun i => (i.zero, i.size, i.bytes)) = some (some zv, z, bytes)) (hzc : zv.cells.size = z) (hz : 0 < z) (hby : bytes ≤ 1000)
    (hs : a.eval s = v) (hx : a.eval x = .slice (some ⟨W.heap.size, 0, none⟩) 1 1) (hcs : cs.size = z) (hone : cs.all (·.oneCell') = true) (hn : n < 4000000) (hbase : base ≤ W.heap.size)
    (h : ∀ g cap w', w'.ownsRow base E z (.slice (some ⟨g, 0, none⟩) (n + 1) cap) (n + 1) (xs ++ cs.toList) → Below base W w' → W.grownBy w' v.ownBlock → (v.ownBlock = some g ∨ W.heap.size ≤ g) → g < w'.heap.size → wpList P ops Q rest (a.put o.dst (.slice (some ⟨g, 0, none⟩) (n + 1) cap)) w') :
    wpList P ops Q (o :: rest) a (W.alloc (.cells cs E)) := by
  obtain ⟨i0, hi, hz0, hz1, hz2⟩ := info_parts hinfo
  refine wpList_append_lies _ hgd s x T ho base E i0 zv z bytes ht hi hz0 hz1 hz2 hzc hz v n xs hs (hown.alloc _) ⟨W.heap.size, 0, none⟩ 1 1 cs.toList hx (by simp [hcs]) ?_ ?_
    (by decide) (by unfold maxLen; omega) (by have : (n + 1) * bytes ≤ 4000000 * 1000 := Nat.mul_le_mul (by omega) hby; omega) (by simp; omega) _ rfl ?_
  · intro j u hj
    rw [addr_add, Nat.zero_add, cell_of_row _ W.heap.size j cs E (0, 0) (heap_alloc_new W _)]
    simpa using hj
  · intro u hu
    exact (Array.all_eq_true_iff_forall_mem.1 hone) u (by simpa using hu)
  intro g cap w' hown' hg hat hlt'
  have hlt := hown.lt
  have hal : Below base W (W.alloc (.cells cs E)) := (Below.refl _ _).alloc hbase _
  refine h g cap w' hown' (hal.grown hg (by simp; omega) (fun k hk => (hlt k hk).1)) ?_ ?_ hlt'
  · exact grown_trans (World.grownBy_alloc W _ _) hg
  · rcases hat with h1 | h1
    · exact .inl h1
    · right; rw [h1, World.size_alloc]; omega
end Go.Proofs.Ytnhijmhambggbaa
/-
  The frame behind a region that draws its order: the slots that the region writes, over the frame from before.
-/
namespace Go.Proofs.Ytnhijmhambggbaa
open Go.RowKit

def ov (ks : List (Nat × Value)) : Nat → List Value → List Value
  | _, [] => []
  | i, x :: r => (match ks.lookup i with | some v => v | none => x) :: ov ks (i + 1) r
def KV (a' : Act) : List (Nat × Value) → Prop
  | [] => True
  | p :: r => a'.tmps.getD p.1 undef = p.2 ∧ KV a' r
theorem kv_lookup {a' : Act} : ∀ {ks : List (Nat × Value)}, KV a' ks → ∀ {i : Nat} {v : Value}, ks.lookup i = some v → a'.tmps.getD i undef = v
  | [], _, i, v, h => by simp at h
  | p :: r, hk, i, v, h => by
    rw [List.lookup_cons] at h
    by_cases e : i == p.1
    · rw [e] at h
      have e' := eq_of_beq e
      simp only [Option.some.injEq] at h
      subst h; subst e'
      exact hk.1
    · have e' : (i == p.1) = false := by simpa using e
      rw [e'] at h
      exact kv_lookup hk.2 h
theorem frameAt_ov {ops : Array Oper} {a a' : Act} {ks : List (Nat × Value)} (h3 : ∀ t, outside ops t = true → a'.tmps.getD t undef = a.tmps.getD t undef) (hv : KV a' ks) : ∀ (xs : List Value) (i : Nat),
    (∀ j, j < xs.length → outside ops (i + j) = true ∨ (ks.lookup (i + j)).isSome = true) → (∀ j, (h : j < xs.length) → a.tmps.getD (i + j) undef = xs[j]) → frameAt a' i (ov ks i xs)
  | [], _, _, _ => trivial
  | x :: r, i, ho, hx => by
    refine ⟨?_, ?_⟩
    · cases hl : ks.lookup i with
      | some v => exact kv_lookup hv hl
      | none =>
        rcases ho 0 (by simp) with h | h
        · rw [Nat.add_zero] at h
          rw [h3 i h]
          exact hx 0 (by simp)
        · rw [Nat.add_zero, hl] at h; cases h
    · refine frameAt_ov h3 hv r (i + 1) (fun j hj => ?_) (fun j hj => ?_)
      · have := ho (j + 1) (by simpa using hj)
        rwa [show i + (j + 1) = i + 1 + j by omega] at this
      · have := hx (j + 1) (by simpa using hj)
        rw [show i + (j + 1) = i + 1 + j by omega] at this
        simpa using this
theorem ov_len (ks : List (Nat × Value)) : ∀ (xs : List Value) (i : Nat), (ov ks i xs).length = xs.length
  | [], _ => rfl
  | _ :: r, i => by simp [ov, ov_len ks r]
theorem frame_ov {ops : Array Oper} {a a' : Act} {xs : List Value} {ds : List Deferred} (ha : a = ⟨xs.toArray, ds⟩) (h1 : a'.tmps.size = a.tmps.size) (h2 : a'.defers = a.defers) (h3 : ∀ t, outside ops t = true → a'.tmps.getD t undef = a.tmps.getD t undef)
    (ks : List (Nat × Value)) (hk : ((List.range xs.length).all fun t => outside ops t || (ks.map (·.1)).contains t) = true) (hv : KV a' ks) : a' = ⟨(ov ks 0 xs).toArray, ds⟩ := by
  subst ha
  refine frame_eq _ (by rw [h1, ov_len]; simp) h2 (frameAt_ov h3 hv xs 0 (fun j hj => ?_) fun j hj => ?_)
  · rw [Nat.zero_add]
    have := List.all_eq_true.1 hk j (List.mem_range.2 hj)
    rw [Bool.or_eq_true] at this
    rcases this with h | h
    · exact .inl h
    · right
      clear hk h1 h2 h3 hv
      induction ks with
      | nil => simp at h
      | cons p r ih =>
        rw [List.lookup_cons]
        by_cases e : j == p.1
        · rw [e]; rfl
        · have e' : (j == p.1) = false := by simpa using e
          rw [e']
          refine ih ?_
          simp only [List.map_cons, List.contains_cons, e', Bool.false_or] at h
          exact h
  · simp [hj]
theorem obt_assign {P : Program} {Q : Exit → Act → World → Prop} {base : List (Tmp × Value)} {dsts : List (Option Tmp)} {S : World → Prop} {fs : List FactP} {i : Nat} {o : Oper} {x : Operand} (v : Value) (ho : o.op = .assign x) (hf : factP fs i = isV v) (hg : o.guard = none) (hx : SrcT base dsts fs o x v) : Obt P Q base dsts S fs i o :=
  obt_run v hf hg fun a w _ hs => by unfold execOp; rw [ho]; simp only [hs x v hx]; rfl
/-- An operation whose one operand is what a forerunner has left, told by a fact. -/
theorem obt_from {P : Program} {Q : Exit → Act → World → Prop} {base : List (Tmp × Value)} {dsts : List (Option Tmp)} {S : World → Prop} {fs : List FactP} {i : Nat} {o : Oper} {d : Tmp} (j : Nat) (hg : o.guard = none) (h1 : dsts[j]? = some (some d)) (h2 : depT o j = true)
    (hr : ∀ (ρ : Operand → Value) (w : World) (u : Value), S w → ρ (.tmp d) = u → factP fs j u w → ∃ v, (execOp ρ o).run P w = .ok (.value v) w ∧ factP fs i v w) : Obt P Q base dsts S fs i o :=
  fun a w hS _ hD K hK => by
    obtain ⟨v, hv1, hv2⟩ := hr a.eval w _ hS rfl (hD j d h1 h2)
    exact ⟨.inl hg, run_value v hv1 (hK _ _ hS (fun _ _ h => h) hv2)⟩
theorem exec_moveV {P : Program} {ρ : Operand → Value} {o : Oper} {w : World} {x : Operand} {u : Value} (ho : o.op = .move x) (hx : ρ x = u) : (execOp ρ o).run P w = .ok (.value u) w := by
  unfold execOp; rw [ho]; simp only [hx]; rfl
theorem exec_assignV {P : Program} {ρ : Operand → Value} {o : Oper} {w : World} {x : Operand} {u : Value} (ho : o.op = .assign x) (hx : ρ x = u) : (execOp ρ o).run P w = .ok (.value u) w := by
  unfold execOp; rw [ho]; simp only [hx]; rfl
theorem exec_extract0 {P : Program} {ρ : Operand → Value} {o : Oper} {w : World} {x : Operand} {u v : Value} (ho : o.op = .extract x 0) (hx : ρ x = .tuple #[u, v]) : (execOp ρ o).run P w = .ok (.value u) w := by
  unfold execOp
  simp only [ho, hx]
  go_simp
theorem exec_extract1 {P : Program} {ρ : Operand → Value} {o : Oper} {w : World} {x : Operand} {u v : Value} (ho : o.op = .extract x 1) (hx : ρ x = .tuple #[u, v]) : (execOp ρ o).run P w = .ok (.value v) w := by
  unfold execOp
  simp only [ho, hx]
  go_simp
end Go.Proofs.Ytnhijmhambggbaa
