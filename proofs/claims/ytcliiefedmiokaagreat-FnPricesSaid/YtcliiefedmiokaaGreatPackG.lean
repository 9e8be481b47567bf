/-
  Texts of this claim, one behind the other: SumF, RowSS, RowS, SpecE, Val, Conn, BestP, Bits, Need.
-/
import Derived.Test.YtcliiefedmiokaaGreatPackF
import Derived.Test.YtcliiefedmiokaaGreatPackD
import Derived.Test.YtcliiefedmiokaaGreatPackB
import Derived.Test.YtcliiefedmiokaaGreatPackC
import Derived.Test.YtcliiefedmiokaaGreatRows
/-
  Numbers of black cells by rows, by columns and by lines.
-/
namespace Go.Proofs.YtcliiefedmiokaaGreat
open Go.RowKit

theorem cnt_add (p : Nat → Bool) (b : Nat) : ∀ C, cnt p (b + C) = cnt p b + cnt (fun x => p (b + x)) C
  | 0 => rfl
  | C + 1 => by
    have := cnt_add p b C
    rw [← Nat.add_assoc, cnt, cnt, this]; omega
theorem cnt_congr {p q : Nat → Bool} : ∀ {N : Nat}, (∀ i, i < N → p i = q i) → cnt p N = cnt q N
  | 0, _ => rfl
  | N + 1, h => by rw [cnt, cnt, cnt_congr fun i hi => h i (by omega), h N (by omega)]
theorem cnt_none {p : Nat → Bool} {N : Nat} (h : ∀ i, i < N → p i = false) : cnt p N = 0 := cnt_skip (k := 0) (Nat.zero_le _) fun i _ hi => h i hi
theorem cnt_only {p : Nat → Bool} {N j : Nat} (hj : j < N) (h : ∀ i, i < N → i ≠ j → p i = false) : cnt p N = if p j = true then 1 else 0 := by
  have h1 : cnt p N = cnt p (j + 1) := cnt_skip (by omega) fun i h1 h2 => h i h2 (by omega)
  have h2 : cnt p j = 0 := cnt_none fun i hi => h i (by omega) (by omega)
  rw [h1, cnt, h2]; omega
theorem lnum_row (C y x : Nat) : lnum 1 0 C y x = y := by simp [lnum, least]
theorem lnum_col (C y x : Nat) (hx : x < C) : lnum 0 1 C y x = (C : Int) - 1 - x := by unfold lnum least; omega
theorem cnt_rows (C : Nat) (f : Nat → Nat → Int) (n : Int) : ∀ Y : Nat, cnt (onL C f (1, 0) n) (C * Y) = if 0 ≤ n ∧ n < Y then rs C f n.toNat else 0
  | 0 => by rw [if_neg (by omega)]; rfl
  | Y + 1 => by
    have h1 : cnt (fun x => onL C f (1, 0) n (C * Y + x)) C = if n = Y then rs C f Y else 0 := by
      by_cases e : n = Y
      · rw [if_pos e]
        refine cnt_congr fun x hx => ?_
        rw [onL_at hx]
        simp only [lnum_row, e]; simp
      · rw [if_neg e]
        refine cnt_none fun x hx => ?_
        rw [onL_at hx]
        simp only [lnum_row]
        have : ((Y : Int) == n) = false := by simp; omega
        rw [this, Bool.and_false]
    rw [Nat.mul_succ, cnt_add, cnt_rows C f n Y, h1]
    by_cases e : n = Y
    · rw [if_pos e, if_neg (by omega), if_pos (by omega), Nat.zero_add]
      congr 1; omega
    · rw [if_neg e, Nat.add_zero]
      by_cases h : 0 ≤ n ∧ n < Y
      · rw [if_pos h, if_pos (by omega)]
      · rw [if_neg h, if_neg (by omega)]
theorem cnt_cols (C : Nat) (f : Nat → Nat → Int) (n : Int) : ∀ Y : Nat, cnt (onL C f (0, 1) n) (C * Y) = if 0 ≤ n ∧ n < C then cs Y f (C - 1 - n.toNat) else 0
  | 0 => by split <;> rfl
  | Y + 1 => by
    rw [Nat.mul_succ, cnt_add, cnt_cols C f n Y]
    by_cases h : 0 ≤ n ∧ n < C
    · rw [if_pos h, if_pos h]
      have hj : C - 1 - n.toNat < C := by omega
      have h1 : cnt (fun x => onL C f (0, 1) n (C * Y + x)) C = if (f Y (C - 1 - n.toNat) == 1) = true then 1 else 0 := by
        rw [cnt_only hj fun x hx hne => ?_]
        · have e : onL C f (0, 1) n (C * Y + (C - 1 - n.toNat)) = (f Y (C - 1 - n.toNat) == 1) := by
            rw [onL_at hj, lnum_col C Y _ hj]
            have : ((C : Int) - 1 - ((C - 1 - n.toNat : Nat) : Int) == n) = true := by simp; omega
            rw [this, Bool.and_true]
          simp only [e]
        · rw [onL_at hx, lnum_col C Y x hx]
          have : ((C : Int) - 1 - (x : Int) == n) = false := by simp; omega
          rw [this, Bool.and_false]
      rw [h1]; rfl
    · rw [if_neg h, if_neg h, Nat.zero_add]
      refine cnt_none fun x hx => ?_
      rw [onL_at hx, lnum_col C Y x hx]
      have : ((C : Int) - 1 - (x : Int) == n) = false := by simp; omega
      rw [this, Bool.and_false]
theorem lineRow_rows (R C : Nat) (f : Nat → Nat → Int) : lineRow R C f 1 0 R = rowsL R C f := rowF_congr fun i hi => by
  rw [Nat.mul_comm R C, cnt_rows, if_pos (by omega)]; rfl
theorem countL_rows (R C : Nat) : countL R C 1 0 = R := by unfold countL lnum least; omega
end Go.Proofs.YtcliiefedmiokaaGreat
/-
  RowSums of the model.
-/
namespace Go.Proofs.YtcliiefedmiokaaGreat
open Go.RowKit

end Go.Proofs.YtcliiefedmiokaaGreat
/-
  RowSums of both.
-/
namespace Go.Proofs.YtcliiefedmiokaaGreat
open Go.RowKit

theorem alongRows_any (w : World) : Calls Tryz.prog 44 #[] w fun e w' => e = .returned (.agg #[.int .i64 1, .int .i64 0]) ∧ Below w.heap.size w w' := by
  go_enter Tryz.func44, Tryz.ntmps44
  go_wp2
  exact bodyPost_ret (v := .agg #[.int .i64 1, .int .i64 0]) (by simp [results, Tryz.results44, go_sem]) rfl ⟨rfl, (Below.refl _ _).alloc (Nat.le_refl _) _⟩
theorem alongCols_any (w : World) : Calls Tryz.prog 51 #[] w fun e w' => e = .returned (.agg #[.int .i64 0, .int .i64 1]) ∧ Below w.heap.size w w' := by
  go_enter Tryz.func51, Tryz.ntmps51
  go_wp2
  exact bodyPost_ret (v := .agg #[.int .i64 0, .int .i64 1]) (by simp [results, Tryz.results51, go_sem]) rfl ⟨rfl, (Below.refl _ _).alloc (Nat.le_refl _) _⟩

theorem implRowSums_no (v : Value) (m : List (List Int)) (w : World) (hin : InMat w v m) (h : okB m = false) :
    Calls Tryz.prog 13 #[v] w (IntsRes [] w) := by
  have HI := hide hin; have H := hide h
  clear hin h
  go_enter Tryz.func13, Tryz.ntmps13
  go_wp2_with fail
  refine (alongRows_any _).mono ?_
  rintro e w1 ⟨rfl, hb⟩
  have HB := hide hb
  clear hb
  go_wp2_with fail
  refine (implLineSums_img v m 1 0 _ (inMat_below HI.out HB.out) H.out).mono ?_
  rintro e w2 ⟨u, rfl, ho, hb⟩
  have HO := hide (own_base ho HB.out.size); have HB2 := hide (HB.out.trans (hb.mono HB.out.size))
  clear ho hb
  go_wp2
  go_ret
  exact ⟨_, rfl, HO.out, HB2.out⟩
theorem implRowSums_yes (v : Value) (R C : Nat) (f : Nat → Nat → Int) (w : World) (hin : InMat w v (mkM R C f)) (hI : Img R C f) :
    Calls Tryz.prog 13 #[v] w (IntsRes (rowsL R C f) w) := by
  have HI := hide hin; have H := hide hI
  rw [← lineRow_rows]
  clear hin hI
  go_enter Tryz.func13, Tryz.ntmps13
  go_wp2_with fail
  refine (alongRows_any _).mono ?_
  rintro e w1 ⟨rfl, hb⟩
  have HB := hide hb
  clear hb
  go_wp2_with fail
  refine (implLineSums_yes v R C R f 1 0 _ (inMat_below HI.out HB.out) H.out (by decide) (countL_rows R C).symm (by have := H.out.r2; omega)).mono ?_
  rintro e w2 ⟨u, rfl, ho, hb⟩
  have HO := hide (own_base ho HB.out.size); have HB2 := hide (HB.out.trans (hb.mono HB.out.size))
  clear ho hb
  go_wp2
  go_ret
  exact ⟨_, rfl, HO.out, HB2.out⟩

end Go.Proofs.YtcliiefedmiokaaGreat
/-
  l02Empty of the model.
-/
namespace Go.Proofs.YtcliiefedmiokaaGreat
open Go.RowKit

set_option maxHeartbeats 1000000 in
theorem l02Empty_any (R C : Nat) (w : World) (hR : R ≤ 5) (hC : C ≤ 5) :
    Calls Tryz.prog 65 #[.int .i64 R, .int .i64 C] w (MatRes (mkM R C zeroM) w) := by
  have HZ : Hid (ints (rowF C (zeroM 0)) = List.replicate C (.int .i64 0)) := hide (by
    apply List.ext_getElem
    · simp [ints, rowF]
    · intro i h1 h2; simp [ints, rowF, zeroM])
  go_enter Tryz.func65, Tryz.ntmps65
  go_wp2
  go_loopw [5, 6] (fun o i w' => ∃ (y : Nat) (v : Value), y ≤ R ∧ i = .int .i64 y ∧ v = o ∧ OwnMat w' w.heap.size w'.heap.size v (mkM y C zeroM) ∧ Below w.heap.size w w') (fun _ i _ => R - (intOf i).toNat)
  case atStart => exact ⟨0, _, by omega, rfl, rfl, ⟨[], World.ownsRow_made (base := w.heap.size) w #[] 0 (Nat.le_refl _) (Nat.zero_le _) rfl, (fun k e => by simp [Value.ownBlock] at e; subst e; simp), (fun i h => absurd h (Nat.not_lt_zero _)), fun i j _ h => absurd h (Nat.not_lt_zero _)⟩, (Below.refl _ _).alloc (Nat.le_refl _) _⟩
  case round =>
    obtain ⟨y, v, hy, rfl, rfl, hown, hb⟩ := hrel
    have HO := hide hown; have HB := hide hb
    clear hown hb
    by_cases hlt : y < R
    · have hyI : (y : Int) < R := by omega
      have hsz := HB.out.size
      go_wp2_with (first | (at_make; refine wpList_new wr.heap.size C (.int .i64 0) rfl _ _ rfl Tryz.underlying30 Tryz.infoInt rfl (by decide) rfl rfl (by omega) (Nat.le_refl _) ?_; intro w1 hown1 hb1 hg1; have O1 := hide (ownMat_below HO.out hb1); have HU : Hid (w1.ownsRow wr.heap.size 3 1 (.slice (some ⟨wr.heap.size, 0, none⟩) C C) (rowF C (zeroM y)).length (ints (rowF C (zeroM y)))) := hide (by rw [rowF_len, show ints (rowF C (zeroM y)) = List.replicate C (.int .i64 0) from HZ.out]; exact hown1); have HB1 := hide (HB.out.trans (hb1.mono hsz)); have hs1 := hb1.size; clear hown1 hb1 hg1; obtain ⟨vs, hv, hvh, hvr, hva⟩ := O1.out; have hvl := mkM_len y C zeroM; rw [hvl] at hv; have HV := hide hv; have HVR := hide hvr; have HVA := hide hva; clear hv hvh hvr hva hvl) | (at_builtin; refine wpList_push HV.out (.slice (some ⟨wr.heap.size, 0, none⟩) C C) (.slice none 0 0) rfl _ _ rfl Tryz.underlying22 Tryz.infoInts rfl (by decide) rfl rfl rfl (by omega) (by omega) ?_; intro v' w6 hown1 hb1 hg1))
      go_roundw
      case rel =>
        have hs6 := hb1.size
        have hp := ownMat_push (r := rowF C (zeroM y)) (hi' := w6.heap.size) HVR.out HVA.out (by rw [mkM_len]; exact HV.out) (by rw [rowF_len]; have := HU.out; rw [rowF_len] at this; exact this) hsz (by omega) (by omega) hg1 (by rw [mkM_len]; exact hown1) (fun k e => (hown1.lt k e).2)
        rw [← mkM_succ] at hp
        exact ⟨y + 1, _, by omega, by go_num, rfl, hp, HB1.out.trans (hb1.mono (by omega))⟩
      case measure => simp [intOf]; omega
    · obtain rfl : y = R := by omega
      go_wp2
      go_ret
      exact ⟨_, rfl, HO.out, HB.out⟩

end Go.Proofs.YtcliiefedmiokaaGreat
/-
  Lists of switches by a number: the shorter ones first, equally long ones in order.
-/
namespace Go.Proofs.YtcliiefedmiokaaGreat

/-- The number of a switch, from 1 up to 625. -/
def numS (s : Sw) : Nat := (codeS s).toNat + 1
theorem num_dec (i : Nat) : numS (decS i) = i + 1 := by unfold numS; rw [code_dec]; rfl
def val (p : List Sw) : Nat := p.foldl (fun v s => v * 626 + numS s) 0
theorem val_nil : val [] = 0 := rfl
theorem val_snoc (p : List Sw) (s : Sw) : val (p ++ [s]) = val p * 626 + numS s := by simp [val, List.foldl_append]
theorem foldl_val (p : List Sw) : ∀ v, p.foldl (fun v s => v * 626 + numS s) v = v * 626 ^ p.length + val p := by
  induction p with
  | nil => intro v; simp [val]
  | cons s p ih =>
    intro v
    have h0 := ih (v * 626 + numS s)
    have h1 := ih (0 * 626 + numS s)
    unfold val
    simp only [List.foldl_cons, List.length_cons] at h0 h1 ⊢
    rw [h0, h1, Nat.pow_succ, Nat.add_mul, Nat.mul_assoc, Nat.mul_comm 626, Nat.zero_mul, Nat.zero_add, Nat.add_assoc]
theorem val_append (p q : List Sw) : val (p ++ q) = val p * 626 ^ q.length + val q := by
  have := foldl_val q (val p)
  unfold val at this ⊢
  rw [List.foldl_append, this]
theorem val_cons (s : Sw) (p : List Sw) : val (s :: p) = numS s * 626 ^ p.length + val p := by
  have := val_append [s] p
  simpa [val] using this
/-- Switches with numbers in their range. -/
def InR (p : List Sw) : Prop := ∀ s ∈ p, 1 ≤ numS s ∧ numS s ≤ 625
theorem inR_snoc {p : List Sw} {s : Sw} : InR (p ++ [s]) ↔ InR p ∧ (1 ≤ numS s ∧ numS s ≤ 625) := by
  unfold InR
  constructor
  · intro h; exact ⟨fun t ht => h t (by simp [ht]), h s (by simp)⟩
  · rintro ⟨h1, h2⟩ t ht
    rcases List.mem_append.1 ht with h | h
    · exact h1 t h
    · rw [List.mem_singleton] at h; subst h; exact h2
theorem inR_cons {p : List Sw} {s : Sw} : InR (s :: p) ↔ (1 ≤ numS s ∧ numS s ≤ 625) ∧ InR p := by
  unfold InR
  constructor
  · intro h; exact ⟨h s (by simp), fun t ht => h t (by simp [ht])⟩
  · rintro ⟨h1, h2⟩ t ht
    rcases List.mem_cons.1 ht with h | h
    · subst h; exact h1
    · exact h2 t h
theorem snoc_ind {α : Type} {C : List α → Prop} (h0 : C []) (h1 : ∀ p s, C p → C (p ++ [s])) : ∀ p, C p := by
  intro p
  have : ∀ n (p : List α), p.length = n → C p := by
    intro n
    induction n with
    | zero => intro p hp; rw [List.eq_nil_of_length_eq_zero hp]; exact h0
    | succ n ih =>
      intro p hp
      rcases List.eq_nil_or_concat p with rfl | ⟨q, b, rfl⟩
      · simp at hp
      · rw [List.concat_eq_append] at hp ⊢
        exact h1 q b (ih q (by simpa using hp))
  exact this _ p rfl
theorem val_lt {p : List Sw} (h : InR p) : val p + 1 ≤ 626 ^ p.length := by
  induction p using snoc_ind with
  | h0 => simp [val]
  | h1 p s ih =>
    obtain ⟨h1, h2⟩ := inR_snoc.1 h
    have := ih h1
    rw [val_snoc, List.length_append, List.length_singleton, Nat.pow_succ]
    omega
theorem val_ge {p : List Sw} (h : InR p) : 626 ^ p.length ≤ 626 * val p + 1 := by
  induction p using snoc_ind with
  | h0 => simp [val]
  | h1 p s ih =>
    obtain ⟨h1, h2⟩ := inR_snoc.1 h
    have := ih h1
    rw [val_snoc, List.length_append, List.length_singleton, Nat.pow_succ]
    omega
theorem val_short {p q : List Sw} (hp : InR p) (hq : InR q) (h : p.length < q.length) : val p < val q := by
  have h1 := val_lt hp
  have h2 := val_ge hq
  have h3 : 626 ^ (p.length + 1) ≤ 626 ^ q.length := Nat.pow_le_pow_right (by decide) h
  rw [Nat.pow_succ] at h3
  omega
theorem val_inj {p : List Sw} : ∀ {q : List Sw}, InR p → InR q → (∀ s ∈ p, ∃ i, i < 625 ∧ s = decS i) → (∀ s ∈ q, ∃ i, i < 625 ∧ s = decS i) → val p = val q → p = q := by
  induction p using snoc_ind with
  | h0 =>
    intro q _ hq _ _ h
    rcases List.eq_nil_or_concat q with rfl | ⟨q', b, rfl⟩
    · rfl
    · rw [List.concat_eq_append] at h hq
      have := (inR_snoc.1 hq).2
      rw [val_snoc, val_nil] at h
      omega
  | h1 p s ih =>
    intro q hp hq hp2 hq2 h
    obtain ⟨hp1, hs⟩ := inR_snoc.1 hp
    rcases List.eq_nil_or_concat q with rfl | ⟨q', b, rfl⟩
    · rw [val_snoc, val_nil] at h; omega
    · rw [List.concat_eq_append] at h hq hq2 ⊢
      obtain ⟨hq1, hb⟩ := inR_snoc.1 hq
      rw [val_snoc, val_snoc] at h
      have e1 : val p = val q' := by omega
      have e2 : numS s = numS b := by omega
      obtain ⟨i, hi, rfl⟩ := hp2 s (by simp)
      obtain ⟨j, hj, rfl⟩ := hq2 b (by simp)
      rw [num_dec, num_dec] at e2
      obtain rfl : i = j := by omega
      rw [ih hp1 hq1 (fun t ht => hp2 t (by simp [ht])) (fun t ht => hq2 t (by simp [ht])) e1]

/-- Each switch of an image has a number. -/
theorem swB_num {R C : Nat} {m : List (List Int)} (hm : Node R C m) {s : Sw} (h : swB m s = true) : ∃ i, i < 625 ∧ s = decS i := (upS_mem ((sws_mem hm).2 h)).2
theorem goM_inR {R C : Nat} : ∀ (p : List Sw) {m t : List (List Int)}, Node R C m → goM m p = some t → (∀ s ∈ p, ∃ i, i < 625 ∧ s = decS i)
  | [], _, _, _, _ => fun s hs => by simp at hs
  | s :: p, m, t, hm, h => by
    simp only [goM] at h
    split at h
    · rename_i hs
      intro u hu
      rcases List.mem_cons.1 hu with rfl | hu
      · exact swB_num hm hs
      · exact goM_inR p (node_flip hm s) h u hu
    · cases h
theorem inR_of {p : List Sw} (h : ∀ s ∈ p, ∃ i, i < 625 ∧ s = decS i) : InR p := fun s hs => by
  obtain ⟨i, hi, rfl⟩ := h s hs
  rw [num_dec]; omega
/-- A path that comes before all others. -/
def Best (m t : List (List Int)) (p : List Sw) : Prop := goM m p = some t ∧ ∀ q, goM m q = some t → val p ≤ val q
theorem best_one {R C : Nat} {m t : List (List Int)} {p q : List Sw} (hm : Node R C m) (h1 : Best m t p) (h2 : Best m t q) : p = q := by
  have a := goM_inR p hm h1.1; have b := goM_inR q hm h2.1
  exact val_inj (inR_of a) (inR_of b) a b (Nat.le_antisymm (h1.2 q h2.1) (h2.2 p h1.1))
theorem best_len {R C : Nat} {m t : List (List Int)} {p q : List Sw} (hm : Node R C m) (h : Best m t p) (hq : goM m q = some t) : p.length ≤ q.length := by
  refine Nat.le_of_not_lt fun hl => ?_
  have := val_short (inR_of (goM_inR q hm hq)) (inR_of (goM_inR p hm h.1)) hl
  have := h.2 q hq
  omega
/-- The rest of such a path is one too. -/
theorem best_tail {R C : Nat} {m t : List (List Int)} {s : Sw} {p : List Sw} (hm : Node R C m) (h : Best m t (s :: p)) : swB m s = true ∧ Best (flipM m s) t p := by
  obtain ⟨h1, h2⟩ := h
  simp only [goM] at h1
  split at h1
  · rename_i hs
    refine ⟨hs, h1, fun q hq => ?_⟩
    have hn := node_flip hm s
    have hg : goM m (s :: q) = some t := by simp only [goM, hs, if_true]; exact hq
    have h3 := h2 _ hg
    have ip := inR_of (goM_inR p hn h1); have iq := inR_of (goM_inR q hn hq)
    rcases Nat.lt_trichotomy p.length q.length with hl | hl | hl
    · exact Nat.le_of_lt (val_short ip iq hl)
    · rw [val_cons, val_cons, hl] at h3; omega
    · exfalso
      have i1 := inR_of (goM_inR (s :: q) hm hg)
      have i2 := inR_of (goM_inR (s :: p) hm (by simp only [goM, hs, if_true]; exact h1))
      have := val_short i1 i2 (by simp only [List.length_cons]; omega)
      omega
  · cases h1
theorem best_nil (m : List (List Int)) : Best m m [] := ⟨rfl, fun _ _ => Nat.zero_le _⟩
end Go.Proofs.YtcliiefedmiokaaGreat
/-
  Any two images with the same sums are joined by switches: twice as many as there are differences, at most; and four times as many at least.
-/
namespace Go.Proofs.YtcliiefedmiokaaGreat

theorem cnt_upd {p q : Nat → Bool} {j : Nat} : ∀ {N : Nat}, j < N → (∀ i, i < N → i ≠ j → p i = q i) → cnt p N + (if q j = true then 1 else 0) = cnt q N + (if p j = true then 1 else 0)
  | 0, h, _ => absurd h (Nat.not_lt_zero _)
  | N + 1, h, e => by
    by_cases hj : j = N
    · subst hj
      have : cnt p j = cnt q j := cnt_congr fun i hi => e i (by omega) (by omega)
      simp only [cnt, this]; omega
    · have h1 := cnt_upd (p := p) (q := q) (N := N) (by omega) fun i hi hne => e i (by omega) hne
      have h2 := e N (by omega) (fun h => hj h.symm)
      simp only [cnt, h2]; omega
theorem cnt_mono {p q : Nat → Bool} : ∀ {N : Nat}, (∀ i, i < N → q i = true → p i = true) → cnt q N ≤ cnt p N
  | 0, _ => Nat.le_refl _
  | N + 1, h => by
    have h1 := cnt_mono (p := p) (q := q) (N := N) fun i hi => h i (by omega)
    have h2 := h N (by omega)
    simp only [cnt]
    cases hq : q N <;> cases hp : p N <;> simp_all <;> omega
theorem cnt_less {p q : Nat → Bool} {j : Nat} : ∀ {N : Nat}, j < N → (∀ i, i < N → q i = true → p i = true) → p j = true → q j = false → cnt q N < cnt p N
  | 0, h, _, _, _ => absurd h (Nat.not_lt_zero _)
  | N + 1, h, e, hp, hq => by
    by_cases hj : j = N
    · subst hj
      have := cnt_mono (p := p) (q := q) (N := j) fun i hi => e i (by omega)
      simp only [cnt, hp, hq]; simp; omega
    · have h1 := cnt_less (p := p) (q := q) (N := N) (by omega) (fun i hi => e i (by omega)) hp hq
      have h2 := e N (by omega)
      simp only [cnt]
      cases hq' : q N <;> cases hp' : p N <;> simp_all <;> omega
theorem cnt_other {p q : Nat → Bool} {N x : Nat} (h : cnt p N = cnt q N) (hx : x < N) (hp : p x = true) (hq : q x = false) : ∃ y, y < N ∧ p y = false ∧ q y = true := by
  refine Classical.byContradiction fun hn => ?_
  have := cnt_less (p := p) (q := q) hx (fun i hi hqi => by
    cases hpi : p i with
    | true => rfl
    | false => exact absurd ⟨i, hi, hpi, hqi⟩ hn) hp hq
  omega
theorem max_row (P : Nat → Nat) : ∀ N, 0 < N → ∃ r, r < N ∧ ∀ i, i < N → P i ≤ P r
  | 0, h => absurd h (Nat.not_lt_zero _)
  | N + 1, _ => by
    by_cases hN : N = 0
    · subst hN; exact ⟨0, by omega, fun i hi => by obtain rfl : i = 0 := by omega
                                                   exact Nat.le_refl _⟩
    · obtain ⟨r, hr, h⟩ := max_row P N (by omega)
      by_cases e : P r ≤ P N
      · exact ⟨N, by omega, fun i hi => by
          by_cases hi' : i = N
          · rw [hi']; exact Nat.le_refl _
          · have := h i (by omega); omega⟩
      · exact ⟨r, by omega, fun i hi => by
          by_cases hi' : i = N
          · rw [hi']; omega
          · exact h i (by omega)⟩

/-- How many cells differ. -/
def diff (R C : Nat) (f g : Nat → Nat → Int) : Nat := cnt (fun i => imgF R C f i != imgF R C g i) 25
theorem diff_symm (R C : Nat) (f g : Nat → Nat → Int) : diff R C f g = diff R C g f := cnt_congr fun i _ => by
  rw [Bool.eq_iff_iff, bne_iff_ne, bne_iff_ne]; exact ⟨Ne.symm, Ne.symm⟩
theorem bne_in {R C : Nat} {f g : Nat → Nat → Int} {y x : Nat} (hy : y < R) (hx : x < C) (hC : C ≤ 5) : (imgF R C f (5 * y + x) != imgF R C g (5 * y + x)) = (f y x != g y x) := by
  rw [imgF_at _ _ _ _ _ (by omega), imgF_at _ _ _ _ _ (by omega), if_pos ⟨hy, hx⟩, if_pos ⟨hy, hx⟩]
def ne1 (a b : Int) : Nat := if a = b then 0 else 1
theorem ne1_if (a b : Int) : (if (a != b) = true then 1 else 0) = ne1 a b := by
  unfold ne1
  by_cases e : a = b
  · subst e; simp
  · simp [e]
theorem flip_in (f : Nat → Nat → Int) (a b c d : Nat) {y x : Nat} (h : (y = a ∨ y = b) ∧ (x = c ∨ x = d)) : flipN f a b c d y x = 1 - f y x := by unfold flipN; rw [if_pos h]
theorem flip_out (f : Nat → Nat → Int) (a b c d : Nat) {y x : Nat} (h : ¬ ((y = a ∨ y = b) ∧ (x = c ∨ x = d))) : flipN f a b c d y x = f y x := by unfold flipN; rw [if_neg h]
/-- The differences behind a switch. -/
theorem diff_flip {R C : Nat} (f g : Nat → Nat → Int) {a b c d : Nat} (hR : R ≤ 5) (hC : C ≤ 5) (hab : a ≠ b) (hcd : c ≠ d) (ha : a < R) (hb : b < R) (hc : c < C) (hd : d < C) :
    diff R C (flipN f a b c d) g + (ne1 (f a c) (g a c) + ne1 (f a d) (g a d) + ne1 (f b c) (g b c) + ne1 (f b d) (g b d)) =
      diff R C f g + (ne1 (1 - f a c) (g a c) + ne1 (1 - f a d) (g a d) + ne1 (1 - f b c) (g b c) + ne1 (1 - f b d) (g b d)) := by
  unfold diff
  obtain ⟨p, hp⟩ : ∃ p : Nat → Bool, p = fun i => imgF R C f i != imgF R C g i := ⟨_, rfl⟩
  obtain ⟨q, hq⟩ : ∃ q : Nat → Bool, q = fun i => imgF R C (flipN f a b c d) i != imgF R C g i := ⟨_, rfl⟩
  have hpv : ∀ y x, y < R → x < C → p (5 * y + x) = (f y x != g y x) := fun y x hy hx => by rw [hp]; exact bne_in hy hx hC
  have hqv : ∀ y x, y < R → x < C → (y = a ∨ y = b) ∧ (x = c ∨ x = d) → q (5 * y + x) = (1 - f y x != g y x) := fun y x hy hx h => by
    rw [hq]
    have := bne_in (f := flipN f a b c d) (g := g) hy hx hC
    rw [flip_in f a b c d h] at this; exact this
  have hsame : ∀ i, i < 25 → i ≠ 5 * a + c → i ≠ 5 * a + d → i ≠ 5 * b + c → i ≠ 5 * b + d → q i = p i := fun i hi h1 h2 h3 h4 => by
    rw [hp, hq]
    have e : imgF R C (flipN f a b c d) i = imgF R C f i := by
      unfold imgF
      by_cases hh : i / 5 < R ∧ i % 5 < C
      · rw [if_pos hh, if_pos hh, flip_out]
        intro hx
        omega
      · rw [if_neg hh, if_neg hh]
    simp only [e]
  have e1 := cnt_upd (p := q) (q := fun i => if i = 5 * a + c then p i else q i) (j := 5 * a + c) (N := 25) (by omega) (fun i _ h => by simp [h])
  have e2 := cnt_upd (p := fun i => if i = 5 * a + c then p i else q i) (q := fun i => if i = 5 * a + c ∨ i = 5 * a + d then p i else q i) (j := 5 * a + d) (N := 25) (by omega) (fun i _ h => by simp [h])
  have e3 := cnt_upd (p := fun i => if i = 5 * a + c ∨ i = 5 * a + d then p i else q i) (q := fun i => if i = 5 * a + c ∨ i = 5 * a + d ∨ i = 5 * b + c then p i else q i) (j := 5 * b + c) (N := 25) (by omega) (fun i _ h => by simp [h])
  have e4 := cnt_upd (p := fun i => if i = 5 * a + c ∨ i = 5 * a + d ∨ i = 5 * b + c then p i else q i) (q := p) (j := 5 * b + d) (N := 25) (by omega) (fun i hi h => by
    by_cases hh : i = 5 * a + c ∨ i = 5 * a + d ∨ i = 5 * b + c
    · simp [hh]
    · simp only [hh, if_false]
      exact hsame i hi (fun e => hh (.inl e)) (fun e => hh (.inr (.inl e))) (fun e => hh (.inr (.inr e))) h)
  have n1 : ¬ (5 * a + d = 5 * a + c) := by omega
  have n2 : ¬ (5 * b + c = 5 * a + c ∨ 5 * b + c = 5 * a + d) := by omega
  have n3 : ¬ (5 * b + d = 5 * a + c ∨ 5 * b + d = 5 * a + d ∨ 5 * b + d = 5 * b + c) := by omega
  simp only [if_true, n1, n2, n3, if_false, or_true] at e1 e2 e3 e4
  rw [hpv a c ha hc, hqv a c ha hc ⟨.inl rfl, .inl rfl⟩, ne1_if, ne1_if] at e1
  rw [hpv a d ha hd, hqv a d ha hd ⟨.inl rfl, .inr rfl⟩, ne1_if, ne1_if] at e2
  rw [hpv b c hb hc, hqv b c hb hc ⟨.inr rfl, .inl rfl⟩, ne1_if, ne1_if] at e3
  rw [hpv b d hb hd, hqv b d hb hd ⟨.inr rfl, .inr rfl⟩, ne1_if, ne1_if] at e4
  rw [← hp, ← hq]
  omega
theorem ne1_le (a b : Int) : ne1 a b ≤ 1 := by unfold ne1; split <;> omega
theorem diff_near {R C : Nat} (f g : Nat → Nat → Int) {a b c d : Nat} (hR : R ≤ 5) (hC : C ≤ 5) (hab : a ≠ b) (hcd : c ≠ d) (ha : a < R) (hb : b < R) (hc : c < C) (hd : d < C) : diff R C f g ≤ diff R C (flipN f a b c d) g + 4 := by
  have := diff_flip f g hR hC hab hcd ha hb hc hd
  have := ne1_le (f a c) (g a c); have := ne1_le (f a d) (g a d); have := ne1_le (f b c) (g b c); have := ne1_le (f b d) (g b d)
  omega

/-- The same sums. -/
def SameF (R C : Nat) (f g : Nat → Nat → Int) : Prop := (∀ y, y < R → rs C f y = rs C g y) ∧ ∀ x, x < C → cs R f x = cs R g x
theorem sameF_symm {R C : Nat} {f g : Nat → Nat → Int} (h : SameF R C f g) : SameF R C g f := ⟨fun y hy => (h.1 y hy).symm, fun x hx => (h.2 x hx).symm⟩
theorem sameF_trans {R C : Nat} {f g k : Nat → Nat → Int} (h : SameF R C f g) (h2 : SameF R C g k) : SameF R C f k := ⟨fun y hy => (h.1 y hy).trans (h2.1 y hy), fun x hx => (h.2 x hx).trans (h2.2 x hx)⟩
theorem cnt_two {p q : Nat → Bool} {N c d : Nat} (hc : c < N) (hd : d < N) (hcd : c ≠ d) (h : ∀ i, i < N → i ≠ c → i ≠ d → p i = q i) (h1 : p c = q d) (h2 : p d = q c) : cnt p N = cnt q N := by
  have e1 := cnt_upd (p := p) (q := fun i => if i = c then q i else p i) (j := c) (N := N) hc (fun i _ h => by simp [h])
  have e2 := cnt_upd (p := fun i => if i = c then q i else p i) (q := q) (j := d) (N := N) hd (fun i hi hne => by
    by_cases hh : i = c
    · simp [hh]
    · simp only [hh, if_false]; exact h i hi hh hne)
  have n : ¬ d = c := fun e => hcd e.symm
  simp only [if_true, n, if_false] at e1 e2
  rw [h1] at e1; rw [h2] at e2
  omega
theorem sameF_flip {R C : Nat} {f : Nat → Nat → Int} {a b c d : Nat} (h : four R C f a b c d = true) (hI : Img R C f) : SameF R C (flipN f a b c d) f := by
  obtain ⟨h1, h2, h3, h4, h5, h6, h7⟩ := four_iff.1 h
  have hv := hI.cell a c (by omega) (by omega)
  constructor
  · intro y hy
    unfold rs
    by_cases hh : y = a ∨ y = b
    · refine cnt_two (c := c) (d := d) (by omega) (by omega) (by omega) (fun i _ n1 n2 => by rw [flip_out f a b c d (by omega)]) ?_ ?_
      · rw [flip_in f a b c d ⟨hh, .inl rfl⟩]
        rcases hh with rfl | rfl
        · rw [h6]
        · rw [h7, h5]; congr 1; omega
      · rw [flip_in f a b c d ⟨hh, .inr rfl⟩]
        rcases hh with rfl | rfl
        · rw [h6]; congr 1; omega
        · rw [h7, h5]
    · exact cnt_congr fun x _ => by rw [flip_out f a b c d (fun e => hh e.1)]
  · intro x hx
    unfold cs
    by_cases hh : x = c ∨ x = d
    · refine cnt_two (c := a) (d := b) (by omega) (by omega) (by omega) (fun i _ n1 n2 => by rw [flip_out f a b c d (by omega)]) ?_ ?_
      · rw [flip_in f a b c d ⟨.inl rfl, hh⟩]
        rcases hh with rfl | rfl
        · rw [h7]
        · rw [h6, h5]; congr 1; omega
      · rw [flip_in f a b c d ⟨.inr rfl, hh⟩]
        rcases hh with rfl | rfl
        · rw [h7]; congr 1; omega
        · rw [h6, h5]
    · exact cnt_congr fun y _ => by rw [flip_out f a b c d (fun e => hh e.2)]
theorem four_any {R C : Nat} {f : Nat → Nat → Int} {r1 r2 c1 c2 : Nat} (hr : r1 ≠ r2) (hc : c1 ≠ c2) (h1 : r1 < R) (h2 : r2 < R) (h3 : c1 < C) (h4 : c2 < C) (e1 : f r2 c2 = f r1 c1) (e2 : f r1 c2 = 1 - f r1 c1) (e3 : f r2 c1 = 1 - f r1 c1) :
    ∃ a b c d, four R C f a b c d = true ∧ ((a = r1 ∧ b = r2) ∨ (a = r2 ∧ b = r1)) ∧ ((c = c1 ∧ d = c2) ∨ (c = c2 ∧ d = c1)) := by
  rcases Nat.lt_or_gt_of_ne hr with a1 | a1 <;> rcases Nat.lt_or_gt_of_ne hc with a2 | a2
  · exact ⟨r1, r2, c1, c2, four_iff.2 ⟨a1, a2, h2, h4, e1, e2, e3⟩, .inl ⟨rfl, rfl⟩, .inl ⟨rfl, rfl⟩⟩
  · exact ⟨r1, r2, c2, c1, four_iff.2 ⟨a1, a2, h2, h3, by omega, by omega, by omega⟩, .inl ⟨rfl, rfl⟩, .inr ⟨rfl, rfl⟩⟩
  · exact ⟨r2, r1, c1, c2, four_iff.2 ⟨a1, a2, h1, h4, by omega, by omega, by omega⟩, .inr ⟨rfl, rfl⟩, .inl ⟨rfl, rfl⟩⟩
  · exact ⟨r2, r1, c2, c1, four_iff.2 ⟨a1, a2, h1, h3, by omega, by omega, by omega⟩, .inr ⟨rfl, rfl⟩, .inr ⟨rfl, rfl⟩⟩
/-- A switch of the one or of the other that makes them nearer. -/
theorem nearer {R C : Nat} {f g : Nat → Nat → Int} (hf : Img R C f) (hg : Img R C g) (hs : SameF R C f g) {y x : Nat} (hy : y < R) (hx : x < C) (hne : f y x ≠ g y x) :
    (∃ a b c d, four R C f a b c d = true ∧ diff R C (flipN f a b c d) g + 2 ≤ diff R C f g) ∨ ∃ a b c d, four R C g a b c d = true ∧ diff R C (flipN g a b c d) f + 2 ≤ diff R C g f := by
  have hR := hf.r2; have hC := hf.c2
  have row : ∀ {f g : Nat → Nat → Int}, Img R C f → Img R C g → SameF R C f g → ∀ {y x : Nat}, y < R → x < C → f y x = 1 → g y x = 0 → ∃ x', x' < C ∧ f y x' = 0 ∧ g y x' = 1 := by
    intro f g hf hg hs y x hy hx h1 h2
    obtain ⟨x', hx', q1, q2⟩ := cnt_other (hs.1 y hy) hx (by simp [h1]) (by simp [h2])
    have := hf.cell y x' hy hx'
    simp at q1 q2
    exact ⟨x', hx', by omega, q2⟩
  have col : ∀ {f g : Nat → Nat → Int}, Img R C f → Img R C g → SameF R C f g → ∀ {y x : Nat}, y < R → x < C → f y x = 1 → g y x = 0 → ∃ y', y' < R ∧ f y' x = 0 ∧ g y' x = 1 := by
    intro f g hf hg hs y x hy hx h1 h2
    obtain ⟨y', hy', q1, q2⟩ := cnt_other (hs.2 x hx) hy (by simp [h1]) (by simp [h2])
    have := hf.cell y' x hy' hx
    simp at q1 q2
    exact ⟨y', hy', by omega, q2⟩
  obtain ⟨P, hP⟩ : ∃ P : Nat → Nat, ∀ r, P r = cnt (fun x => f r x == 1 && g r x == 0) C := ⟨_, fun _ => rfl⟩
  have hpos : ∃ x, x < C ∧ f y x = 1 ∧ g y x = 0 := by
    rcases hf.cell y x hy hx with h1 | h1
    · have h2 : g y x = 1 := by have := hg.cell y x hy hx; omega
      obtain ⟨x', hx', q1, q2⟩ := row hg hf (sameF_symm hs) hy hx h2 h1
      exact ⟨x', hx', q2, q1⟩
    · exact ⟨x, hx, h1, by have := hg.cell y x hy hx; omega⟩
  obtain ⟨x0, hx0, p1, p2⟩ := hpos
  obtain ⟨r1, hr1, hmax⟩ := max_row P R (by omega)
  have hP1 : 0 < P r1 := by
    have h1 := hmax y hy
    have h2 : 0 < P y := by
      rw [hP]
      have := cnt_less (p := fun x => f y x == 1 && g y x == 0) (q := fun _ => false) (N := C) hx0 (fun _ _ h => by cases h) (by simp [p1, p2]) rfl
      omega
    omega
  obtain ⟨ca, hca, hq⟩ : ∃ i, i < C ∧ (f r1 i == 1 && g r1 i == 0) = true := by
    refine Classical.byContradiction fun hn => ?_
    have : P r1 = 0 := by
      rw [hP]
      exact cnt_none fun i hi => by
        cases hh : (f r1 i == 1 && g r1 i == 0) with
        | false => rfl
        | true => exact absurd ⟨i, hi, hh⟩ hn
    omega
  simp only [Bool.and_eq_true, beq_iff_eq] at hq
  obtain ⟨c2, hc2, u1, u2⟩ := row hf hg hs hr1 hca hq.1 hq.2
  obtain ⟨r2, hr2, v1, v2⟩ := col hg hf (sameF_symm hs) hr1 hc2 u2 u1
  have hrr : r1 ≠ r2 := fun e => by subst e; omega
  obtain ⟨c1, hc1, w1, w2⟩ : ∃ i, i < C ∧ (f r1 i == 1 && g r1 i == 0) = true ∧ (f r2 i == 1 && g r2 i == 0) = false := by
    refine Classical.byContradiction fun hn => ?_
    have h1 := cnt_less (p := fun x => f r2 x == 1 && g r2 x == 0) (q := fun x => f r1 x == 1 && g r1 x == 0) (N := C) hc2 (fun i hi h => by
      cases hh : (f r2 i == 1 && g r2 i == 0) with
      | true => rfl
      | false => exact absurd ⟨i, hi, h, hh⟩ hn) (by simp [v1, v2]) (by simp [u1])
    have h2 := hmax r2 hr2
    rw [hP, hP] at h2
    omega
  simp only [Bool.and_eq_true, beq_iff_eq] at w1
  obtain ⟨w1, w1'⟩ := w1
  have hcc : c1 ≠ c2 := fun e => by subst e; omega
  have ne_one : ∀ {a b : Int}, a ≠ b → ne1 a b = 1 := fun h => by unfold ne1; rw [if_neg h]
  have ne_zero : ∀ {a b : Int}, a = b → ne1 a b = 0 := fun h => by unfold ne1; rw [if_pos h]
  have hfc := hf.cell r2 c1 hr2 hc1; have hgc := hg.cell r2 c1 hr2 hc1
  rcases hfc with hf0 | hf1
  · left
    obtain ⟨a, b, c, d, h4, hab, hcd⟩ := four_any (f := f) hrr hcc hr1 hr2 hc1 hc2 (by omega) (by omega) (by omega)
    refine ⟨a, b, c, d, h4, ?_⟩
    have k1 : ne1 (f r1 c1) (g r1 c1) = 1 := ne_one (by omega)
    have k2 : ne1 (f r1 c2) (g r1 c2) = 1 := ne_one (by omega)
    have k3 : ne1 (f r2 c2) (g r2 c2) = 1 := ne_one (by omega)
    have l1 : ne1 (1 - f r1 c1) (g r1 c1) = 0 := ne_zero (by omega)
    have l2 : ne1 (1 - f r1 c2) (g r1 c2) = 0 := ne_zero (by omega)
    have l3 : ne1 (1 - f r2 c2) (g r2 c2) = 0 := ne_zero (by omega)
    have l4 := ne1_le (1 - f r2 c1) (g r2 c1)
    have := diff_flip f g (a := a) (b := b) (c := c) (d := d) hR hC (by omega) (by omega) (by omega) (by omega) (by omega) (by omega)
    rcases hab with ⟨rfl, rfl⟩ | ⟨rfl, rfl⟩ <;> rcases hcd with ⟨rfl, rfl⟩ | ⟨rfl, rfl⟩ <;> omega
  · right
    have hg1 : g r2 c1 = 1 := by
      rcases hgc with h | h
      · rw [hf1, h] at w2; simp at w2
      · exact h
    obtain ⟨a, b, c, d, h4, hab, hcd⟩ := four_any (f := g) hrr hcc hr1 hr2 hc1 hc2 (by omega) (by omega) (by omega)
    refine ⟨a, b, c, d, h4, ?_⟩
    have k1 : ne1 (g r1 c1) (f r1 c1) = 1 := ne_one (by omega)
    have k2 : ne1 (g r1 c2) (f r1 c2) = 1 := ne_one (by omega)
    have k3 : ne1 (g r2 c2) (f r2 c2) = 1 := ne_one (by omega)
    have l1 : ne1 (1 - g r1 c1) (f r1 c1) = 0 := ne_zero (by omega)
    have l2 : ne1 (1 - g r1 c2) (f r1 c2) = 0 := ne_zero (by omega)
    have l3 : ne1 (1 - g r2 c2) (f r2 c2) = 0 := ne_zero (by omega)
    have l4 := ne1_le (1 - g r2 c1) (f r2 c1)
    have := diff_flip g f (a := a) (b := b) (c := c) (d := d) hR hC (by omega) (by omega) (by omega) (by omega) (by omega) (by omega)
    rcases hab with ⟨rfl, rfl⟩ | ⟨rfl, rfl⟩ <;> rcases hcd with ⟨rfl, rfl⟩ | ⟨rfl, rfl⟩ <;> omega
theorem swF_of {R C : Nat} {f : Nat → Nat → Int} {a b c d : Nat} (h : four R C f a b c d = true) : swF R C f ⟨a, b, c, d⟩ = true := swF_iff.2 ⟨a, b, c, d, rfl, h⟩
/-- Ryser's theorem, with the number of switches. -/
theorem joined {R C : Nat} : ∀ (n : Nat) (f g : Nat → Nat → Int), diff R C f g ≤ n → Img R C f → Img R C g → SameF R C f g → ∃ p, goM (mkM R C f) p = some (mkM R C g) ∧ 2 * p.length ≤ diff R C f g := by
  intro n
  induction n using Nat.strongRecOn with
  | ind n ih =>
    intro f g hn hf hg hs
    by_cases he : ∀ y x, y < R → x < C → f y x = g y x
    · exact ⟨[], by rw [mkM_congr he]; rfl, by simp⟩
    · obtain ⟨y, x, hy, hx, hne⟩ : ∃ y x, y < R ∧ x < C ∧ f y x ≠ g y x := by
        refine Classical.byContradiction fun hc => he fun y x hy hx => ?_
        exact Classical.byContradiction fun h => hc ⟨y, x, hy, hx, h⟩
      rcases nearer hf hg hs hy hx hne with ⟨a, b, c, d, h4, hd⟩ | ⟨a, b, c, d, h4, hd⟩
      · obtain ⟨p, hp, hl⟩ := ih (n - 2) (by omega) (flipN f a b c d) g (by omega) (flipN_img hf a b c d) hg (sameF_trans (sameF_flip h4 hf) hs)
        refine ⟨⟨a, b, c, d⟩ :: p, ?_, by simp only [List.length_cons]; omega⟩
        simp only [goM]
        rw [swB_mk hf, swF_of h4, flipM_mk hf]
        exact hp
      · have e1 := diff_symm R C f (flipN g a b c d)
        have e2 := diff_symm R C f g
        obtain ⟨p, hp, hl⟩ := ih (n - 2) (by omega) f (flipN g a b c d) (by omega) hf (flipN_img hg a b c d) (sameF_trans hs (sameF_symm (sameF_flip h4 hg)))
        refine ⟨p ++ [⟨a, b, c, d⟩], ?_, by simp only [List.length_append, List.length_singleton]; omega⟩
        have h5 := goM_snoc hp (s := ⟨a, b, c, d⟩) (by rw [swB_mk (flipN_img hg a b c d)]; exact swF_of (four_flip h4))
        rw [flipM_mk (flipN_img hg a b c d)] at h5
        have e3 : flipF (flipN g a b c d) ⟨a, b, c, d⟩ = g := flipN_flip g a b c d
        rw [e3] at h5; exact h5
theorem path_far {R C : Nat} : ∀ (p : List Sw) (f g : Nat → Nat → Int), Img R C f → Img R C g → goM (mkM R C f) p = some (mkM R C g) → diff R C f g ≤ 4 * p.length ∧ SameF R C f g
  | [], f, g, hf, hg, h => by
    have e : mkM R C f = mkM R C g := Option.some.inj h
    have ec : ∀ y x, y < R → x < C → f y x = g y x := fun y x hy hx => by rw [← cell_mk R C f hy hx, e, cell_mk R C g hy hx]
    constructor
    · have : diff R C f g = 0 := cnt_none fun i _ => by
        have : imgF R C f i = imgF R C g i := by
          unfold imgF
          split
          · rename_i hh; exact ec _ _ hh.1 hh.2
          · rfl
        rw [this]; simp
      omega
    · exact ⟨fun y hy => cnt_congr fun x hx => by rw [ec y x hy hx], fun x hx => cnt_congr fun y hy => by rw [ec y x hy hx]⟩
  | s :: p, f, g, hf, hg, h => by
    simp only [goM] at h
    rw [swB_mk hf, flipM_mk hf] at h
    split at h
    · rename_i hs
      obtain ⟨a, b, c, d, rfl, h4⟩ := swF_iff.1 hs
      obtain ⟨k1, k2, k3, k4, -⟩ := four_iff.1 h4
      obtain ⟨h5, h6⟩ := path_far p (flipN f a b c d) g (flipN_img hf a b c d) hg h
      have h7 := diff_near f g hf.r2 hf.c2 (a := a) (b := b) (c := c) (d := d) (by omega) (by omega) (by omega) k3 (by omega) k4
      exact ⟨by simp only [List.length_cons]; omega, sameF_trans (sameF_symm (sameF_flip h4 hf)) h6⟩
    · cases h
end Go.Proofs.YtcliiefedmiokaaGreat
/-
  The first of the greatest, pure.
-/
namespace Go.Proofs.YtcliiefedmiokaaGreat

/-- One more: the first one of the greatest value so far, and its value. -/
def bestS {M : Type} (vf : M → Int) (s : Option (M × Int)) (m : M) : Option (M × Int) :=
  match s with
  | none => some (m, vf m)
  | some p => if p.2 < vf m then some (m, vf m) else some p
def bestF {M : Type} (vf : M → Int) (L : List M) : Option (M × Int) := L.foldl (bestS vf) none
theorem bestF_snoc {M : Type} (vf : M → Int) (pre : List M) (m : M) : bestF vf (pre ++ [m]) = bestS vf (bestF vf pre) m := by simp [bestF, List.foldl_append]
theorem bestS_none {M : Type} (vf : M → Int) (m : M) : bestS vf none m = some (m, vf m) := rfl
theorem bestS_more {M : Type} {vf : M → Int} {p : M × Int} {m : M} (h : p.2 < vf m) : bestS vf (some p) m = some (m, vf m) := by simp [bestS, h]
theorem bestS_less {M : Type} {vf : M → Int} {p : M × Int} {m : M} (h : ¬ p.2 < vf m) : bestS vf (some p) m = some p := by simp [bestS, h]
/-- It is one of them, none is greater. -/
theorem bestF_spec {M : Type} (vf : M → Int) (L : List M) : match bestF vf L with
    | none => L = []
    | some p => p.1 ∈ L ∧ p.2 = vf p.1 ∧ ∀ m ∈ L, vf m ≤ p.2 := by
  have key : ∀ n (L : List M), L.length = n → match bestF vf L with
    | none => L = []
    | some p => p.1 ∈ L ∧ p.2 = vf p.1 ∧ ∀ m ∈ L, vf m ≤ p.2 := by
    intro n
    induction n with
    | zero => intro L h; obtain rfl := List.eq_nil_of_length_eq_zero h; rfl
    | succ n ih =>
      intro L h
      have hne : L ≠ [] := by intro e; subst e; simp at h
      obtain ⟨pre, m, rfl⟩ : ∃ pre m, L = pre ++ [m] := ⟨L.dropLast, L.getLast hne, (List.dropLast_concat_getLast hne).symm⟩
      have h1 := ih pre (by rw [List.length_append, List.length_singleton] at h; omega)
      rw [bestF_snoc]
      cases e : bestF vf pre with
      | none =>
        rw [e] at h1
        simp only at h1
        subst h1
        rw [bestS_none]
        exact ⟨by simp, rfl, fun x hx => by simp at hx; subst hx; exact Int.le_refl _⟩
      | some p =>
        rw [e] at h1
        obtain ⟨g1, g2, g3⟩ := h1
        by_cases hlt : p.2 < vf m
        · rw [bestS_more hlt]
          refine ⟨by simp, rfl, fun x hx => ?_⟩
          rw [List.mem_append, List.mem_singleton] at hx
          rcases hx with hx | rfl
          · have := g3 x hx; show vf x ≤ vf m; omega
          · exact Int.le_refl _
        · rw [bestS_less hlt]
          refine ⟨by simp [g1], g2, fun x hx => ?_⟩
          rw [List.mem_append, List.mem_singleton] at hx
          rcases hx with hx | rfl
          · exact g3 x hx
          · omega
  exact key _ L rfl
theorem bestF_some {M : Type} {vf : M → Int} {L : List M} (h : L ≠ []) : ∃ p, bestF vf L = some p ∧ p.1 ∈ L ∧ p.2 = vf p.1 ∧ ∀ m ∈ L, vf m ≤ p.2 := by
  have := bestF_spec vf L
  cases e : bestF vf L with
  | none => rw [e] at this; exact absurd this h
  | some p => rw [e] at this; exact ⟨p, rfl, this⟩
end Go.Proofs.YtcliiefedmiokaaGreat
/-
  Rows as bits: OnesCount, rowOfBits, rowsWith.
-/
namespace Go.Proofs.YtcliiefedmiokaaGreat
open Go.RowKit

/-- How many bits of n are set, of the lowest five. -/
def pop5 (n : Nat) : Nat := n % 2 + n / 2 % 2 + n / 4 % 2 + n / 8 % 2 + n / 16 % 2
set_option maxHeartbeats 4000000 in
theorem ones64_any (n : Nat) (w : World) (h : n < 32) : Calls Tryz.prog 145 #[.int .u64 n] w fun e w' => e = .returned (.int .i64 (pop5 n : Nat)) ∧ w = w' := by
  go_enter Tryz.func145, Tryz.ntmps145
  go_wp2
  go_ret
  refine ⟨?_, rfl⟩
  simp only [Array.getD_eq_getD_getElem?]
  refine ret_int ?_
  revert n
  decide +kernel
theorem ones_any (n : Nat) (w : World) (h : n < 32) : Calls Tryz.prog 131 #[.int .u64 n] w fun e w' => e = .returned (.int .i64 (pop5 n : Nat)) ∧ w = w' := by
  go_enter Tryz.func131, Tryz.ntmps131
  go_wp2_with ((with_reducible refine (ones64_any n _ h).mono ?_); rintro e w' ⟨rfl, rfl⟩)
  go_ret
  exact ⟨rfl, rfl⟩
/-- The bits of n, the highest of C first. -/
def bitsRow (C n : Nat) : List Int := tabL C fun x => ((n / 2 ^ (C - 1 - x) % 2 : Nat) : Int)
theorem bit_at : ∀ n : Nat, n < 32 → ∀ e : Nat, e < 5 → wrap64 (bits BinOp.and IntKind.u64 ((n : Int) / 2 ^ e) 1) = ((n / 2 ^ e % 2 : Nat) : Int) := by decide +kernel
set_option maxHeartbeats 400000 in
theorem rowOfBits_any (n C : Nat) (w : World) (hC : 1 ≤ C ∧ C ≤ 5) (h : n < 32) :
    Calls Tryz.prog 132 #[.int .u64 n, .int .i64 C] w (IntsRes (bitsRow C n) w) := by
  obtain ⟨hC1, hC2⟩ := hC
  have HBI := hide fun (e : Nat) (he : e < 5) => bit_at n h e he
  go_enter Tryz.func132, Tryz.ntmps132
  go_wp2_with (at_make; refine wpList_new w.heap.size C (.int .i64 0) rfl _ _ rfl Tryz.underlying30 Tryz.infoInt rfl (by decide) rfl rfl (by omega) (Nat.le_refl _) ?_; intro w1 hown1 hb1 hg1)
  have HO := hide hown1; have HB := hide hb1
  clear hown1 hb1 hg1
  go_wp2
  go_loopw [11] (fun i w' => ∃ k : Nat, k ≤ C ∧ i = .int .i64 k ∧ w'.ownsRow w.heap.size 3 1 (.slice (some ⟨w.heap.size, 0, none⟩) C C) C (ints (tabL C fun x => if x < k then ((n / 2 ^ (C - 1 - x) % 2 : Nat) : Int) else 0)) ∧ Below w.heap.size w w') (fun i _ => C - (intOf i).toNat)
  case atStart => exact ⟨0, Nat.zero_le _, rfl, by rw [tabL_zero] at HO; exact HO.out, HB.out⟩
  case round =>
    clear HO HB
    obtain ⟨k, hk, rfl, hown, hb⟩ := hrel
    have HO := hide hown; have HB := hide hb
    clear hown hb
    by_cases hlt : k < C
    · have hc1 := cell_held HO.out hlt
      rw [tabL_held hlt, if_neg (Nat.lt_irrefl k)] at hc1
      have hf := HO.out.frozenAt k
      have HS := HO.out.stored k (.int .i64 (n / 2 ^ (C - 1 - k) % 2 : Nat))
      rw [ints_set, tabL_set] at HS
      rw [show (tabL C fun t => if t = k then ((n / 2 ^ (C - 1 - k) % 2 : Nat) : Int) else if t < k then ((n / 2 ^ (C - 1 - t) % 2 : Nat) : Int) else 0) = tabL C fun x => if x < k + 1 then ((n / 2 ^ (C - 1 - x) % 2 : Nat) : Int) else 0 from tabL_congr fun i _ => by
        by_cases e : i = k
        · subst e; rw [if_pos rfl, if_pos (Nat.lt_succ_self _)]
        · rw [if_neg e]
          by_cases e' : i < k
          · rw [if_pos e', if_pos (by omega)]
          · rw [if_neg e', if_neg (by omega)], ← HBI.out (C - 1 - k) (by omega)] at HS
      have HS := hide HS
      go_wp2
      go_roundw
      case rel => exact ⟨k + 1, by omega, by go_num, HS.out.1, HB.out.setCell (Nat.le_refl _) _⟩
      case measure => simp [intOf]; omega
    · obtain rfl : k = C := by omega
      have e3 : (tabL k fun x => if x < k then ((n / 2 ^ (k - 1 - x) % 2 : Nat) : Int) else 0) = bitsRow k n := tabL_congr fun i hi => by rw [if_pos hi]
      rw [e3] at HO
      go_wp2
      go_ret
      exact ⟨_, rfl, by rw [bitsRow, tabL_len]; exact HO.out, HB.out⟩
/-- The rows among the first N numbers. -/
def bitRows (C : Nat) (s : Int) (N : Nat) : List (List Int) := ((List.range N).filter fun n => decide (((pop5 n : Nat) : Int) = s)).map (bitsRow C)
theorem bitRows_succ (C : Nat) (s : Int) (N : Nat) : bitRows C s (N + 1) = bitRows C s N ++ if ((pop5 N : Nat) : Int) = s then [bitsRow C N] else [] := by
  unfold bitRows
  rw [List.range_succ, List.filter_append, List.map_append]
  congr 1
  by_cases h : ((pop5 N : Nat) : Int) = s
  · rw [if_pos h]; simp [h]
  · rw [if_neg h]; simp [h]
theorem bitRows_len (C : Nat) (s : Int) (N : Nat) : (bitRows C s N).length ≤ N := by
  unfold bitRows
  rw [List.length_map]
  exact Nat.le_trans (List.length_filter_le _ _) (by simp)
theorem bitRows_yes {C : Nat} {s : Int} {N : Nat} (h : ((pop5 N : Nat) : Int) = s) : bitRows C s (N + 1) = bitRows C s N ++ [bitsRow C N] := by rw [bitRows_succ, if_pos h]
theorem bitRows_no {C : Nat} {s : Int} {N : Nat} (h : ¬ ((pop5 N : Nat) : Int) = s) : bitRows C s (N + 1) = bitRows C s N := by rw [bitRows_succ, if_neg h, List.append_nil]
theorem bitsRow_len (C n : Nat) : (bitsRow C n).length = C := tabL_len _ _
set_option maxHeartbeats 1000000 in
theorem rowsWith_any (s : Int) (C : Nat) (w : World) (hC : 1 ≤ C ∧ C ≤ 5) :
    Calls Tryz.prog 105 #[.int .i64 s, .int .i64 C] w (MatRes (bitRows C s (2 ^ C)) w) := by
  obtain ⟨hC1, hC2⟩ := hC
  obtain ⟨N, hN⟩ : ∃ N, N = 2 ^ C := ⟨_, rfl⟩
  have hN5 : N ≤ 32 := by rw [hN]; exact Nat.le_trans (Nat.pow_le_pow_right (by decide) hC2) (by decide)
  have hW : IntKind.u64.wrap (2 ^ C) = (N : Int) := by
    rw [show ((2 : Int) ^ C) = ((2 ^ C : Nat) : Int) by simp, ← hN]
    have : ∀ n : Nat, n ≤ 32 → IntKind.u64.wrap (n : Int) = n := by decide
    exact this N hN5
  rw [← hN]
  have HN := hide hN; have HN5 := hide hN5
  have HC := hide (And.intro hC1 hC2)
  clear hN
  go_enter Tryz.func105, Tryz.ntmps105
  go_wp2
  go_loopw [5, 9] (fun u i w' => ∃ (k : Nat) (v : Value), k ≤ N ∧ i = .int .u64 k ∧ v = u ∧ OwnMat w' w.heap.size w'.heap.size v (bitRows C s k) ∧ Below w.heap.size w w') (fun _ i _ => N - (intOf i).toNat)
  case atStart => exact ⟨0, _, Nat.zero_le _, rfl, rfl, ownMat_nil _ _ _, Below.refl _ _⟩
  case round =>
    obtain ⟨k, v, hk, rfl, rfl, hown, hb⟩ := hrel
    have HO := hide hown; have HB := hide hb
    clear hown hb hW
    by_cases hlt : k < N
    · have hk32 : k < 32 := by have := HN5.out; omega
      have hsz := HB.out.size
      have HY := hide (fun h => bitRows_yes (C := C) (s := s) (N := k) h)
      have HZ := hide (fun h => bitRows_no (C := C) (s := s) (N := k) h)
      have HONE := hide (ones_any k wr hk32)
      obtain ⟨q, hq⟩ : ∃ q, q = ((pop5 k : Nat) : Int) := ⟨_, rfl⟩
      rw [← hq] at HY HZ HONE
      clear hq
      by_cases hqs : q = s
      · subst hqs
        have HY2 := hide (HY.out rfl)
        have HLEN := hide (bitRows_len C q k)
        clear HY HZ
        have hlen := HLEN.out
        obtain ⟨vs, hv, hvh, hvr, hva⟩ := HO.out
        have HV := hide hv; have HVR := hide hvr; have HVA := hide hva
        clear hv hvh hvr hva
        go_wp2_with (first | (go_at_call 131; refine HONE.out.mono ?_; rintro e w4 ⟨rfl, rfl⟩) | (go_at_call 132; refine (rowOfBits_any k C _ HC.out hk32).mono ?_; rintro e w5 ⟨ur, rfl, hur, hb5⟩; rw [bitsRow_len] at hur; obtain ⟨ra, rc, rfl⟩ := own_slice hur; have HU := hide hur; have HB5 := hide hb5; have hs5 := hb5.size; have HV5 := hide (own_below HV.out hb5); clear hur hb5) | (at_builtin; refine wpList_push HV5.out (.slice ra C rc) (.slice none 0 0) rfl _ _ rfl Tryz.underlying22 Tryz.infoInts rfl (by decide) rfl rfl rfl (by omega) (by omega) ?_; intro v' w6 hown1 hb1 hg1))
        go_roundw
        case rel =>
          have hs6 := hb1.size
          have hp := ownMat_push (w := w5) (r := bitsRow C k) (hi := wr.heap.size) (hi' := w6.heap.size) (fun i h => ⟨own_below (HVR.out i h).1 HB5.out, (HVR.out i h).2⟩) HVA.out HV5.out (by rw [bitsRow_len]; exact HU.out) hsz (by omega) (by omega) hg1 hown1 (fun k e => (hown1.lt k e).2)
          rw [← HY2.out] at hp
          exact ⟨k + 1, _, by omega, by go_num, rfl, hp, (HB.out.trans (HB5.out.mono hsz)).trans (hb1.mono (by have := HB5.out.size; omega))⟩
        case measure => simp [intOf]; omega
      · have HZ2 := hide (HZ.out hqs)
        clear HY HZ
        go_wp2_with (go_at_call 131; refine HONE.out.mono ?_; rintro e w4 ⟨rfl, rfl⟩)
        go_roundw
        case rel => exact ⟨k + 1, _, by omega, by go_num, rfl, by rw [HZ2.out]; exact HO.out, HB.out⟩
        case measure => simp [intOf]; omega
    · obtain rfl : k = N := by omega
      go_wp2
      go_ret
      exact ⟨_, rfl, HO.out, HB.out⟩
end Go.Proofs.YtcliiefedmiokaaGreat
/-
  A region that draws its order, whose operations may write: each must keep only what an operation that may still come up reads.
-/
namespace Go.Proofs.YtcliiefedmiokaaGreat
open Go.RowKit

/-- Operation i waits, at some remove, for operation k. -/
def anc (l : List Oper) : Nat → Nat → Nat → Bool
  | 0, _, _ => false
  | f + 1, i, k => match l[i]? with
    | none => false
    | some o => (List.range i).any fun e => depT o e && (e == k || anc l f e k)
/-- Operation o reads what j has left. -/
def datT (o : Oper) (j : Nat) : Bool := o.after.any fun e => e.on == j && Region.binds .any e && (match e.ground with | .data => true | .guard => true | _ => false)
def dataOnly (o : Oper) : Bool := o.after.toList.all fun e => !Region.binds .any e || datT o e.on
/-- Some operation that may come up behind i reads what j has left. -/
def needB (l : List Oper) (i j : Nat) : Bool :=
  j != i && (List.range l.length).any fun k => k != i && !anc l l.length i k && (match l[k]? with | none => false | some o => datT o j)
theorem needB_of {l : List Oper} {i j k : Nat} {o : Oper} (hij : j ≠ i) (hk : l[k]? = some o) (hi : k ≠ i) (ha : anc l l.length i k = false) (hd : datT o j = true) : needB l i j = true := by
  unfold needB
  rw [Bool.and_eq_true, List.any_eq_true]
  refine ⟨by simpa using hij, k, List.mem_range.2 (List.getElem?_eq_some_iff.1 hk).1, ?_⟩
  simp [hk, hi, ha, hd]
/-- All that needB can say of i. -/
def needL (l : List Oper) (i : Nat) : List Nat :=
  ((List.range l.length).flatMap fun k => if k != i && !anc l l.length i k then (match l[k]? with | none => [] | some o => o.after.toList.map (·.on)) else []).filter fun j => j != i && needB l i j
theorem needL_of {l : List Oper} {i j : Nat} (h : needB l i j = true) : j ∈ needL l i := by
  have h0 := h
  unfold needB at h
  rw [Bool.and_eq_true, List.any_eq_true] at h
  obtain ⟨hj, k, hk, h⟩ := h
  unfold needL
  rw [List.mem_filter]
  refine ⟨List.mem_flatMap.2 ⟨k, hk, ?_⟩, by rw [hj, h0]; rfl⟩
  rw [Bool.and_eq_true] at h
  obtain ⟨h1, h2⟩ := h
  rw [if_pos h1]
  cases hl : l[k]? with
  | none => rw [hl] at h2; cases h2
  | some o =>
    rw [hl] at h2
    have h2' : datT o j = true := h2
    unfold datT at h2'
    rw [Array.any_eq_true] at h2'
    obtain ⟨n, hn, h3⟩ := h2'
    simp only [Bool.and_eq_true, beq_iff_eq] at h3
    exact List.mem_map.2 ⟨_, Array.getElem_mem_toList hn, h3.1.1⟩

section
variable {P : Program} {ops : Array Oper} {Q : Exit → Act → World → Prop}

theorem depT_iff {o : Oper} {j : Nat} : depT o j = true ↔ ∃ e ∈ o.after, e.on = j ∧ Region.binds .any e = true := by
  unfold depT
  rw [Array.any_eq_true]
  constructor
  · rintro ⟨n, hn, h⟩
    simp only [Bool.and_eq_true, beq_iff_eq] at h
    exact ⟨_, Array.getElem_mem hn, h⟩
  · rintro ⟨e, he, h1, h2⟩
    obtain ⟨n, hn, rfl⟩ := Array.getElem_of_mem he
    exact ⟨n, hn, by simp [h1, h2]⟩
theorem datT_dep {o : Oper} {j : Nat} (h : datT o j = true) : depT o j = true := by
  unfold datT at h
  rw [Array.any_eq_true] at h
  obtain ⟨n, hn, h⟩ := h
  simp only [Bool.and_eq_true, beq_iff_eq] at h
  exact depT_iff.2 ⟨_, Array.getElem_mem hn, h.1.1, h.1.2⟩
theorem dat_of {o : Oper} (h : dataOnly o = true) {j : Nat} (hd : depT o j = true) : datT o j = true := by
  obtain ⟨e, he, rfl, hb⟩ := depT_iff.1 hd
  unfold dataOnly at h
  rw [List.all_eq_true] at h
  have := h e (by simpa using he)
  rw [hb] at this
  simpa using this
theorem anc_listed {listed : Array Bool} (hc : Closed .any ops listed) : ∀ (f i k : Nat) (o : Oper), ops[i]? = some o → (∀ e ∈ o.after, Region.binds .any e = true → listed.getD e.on false = true) → anc ops.toList f i k = true → listed.getD k false = true
  | 0, _, _, _, _, _, h => by cases h
  | f + 1, i, k, o, hi, hall, h => by
    unfold anc at h
    have hi' : ops.toList[i]? = some o := by simpa using hi
    rw [hi'] at h
    simp only [List.any_eq_true, Bool.and_eq_true, Bool.or_eq_true, beq_iff_eq] at h
    obtain ⟨e, -, hd, h⟩ := h
    obtain ⟨x, hx, rfl, hb⟩ := depT_iff.1 hd
    have hl := hall x hx hb
    rcases h with h | h
    · rw [← h]; exact hl
    · cases hx' : ops[x.on]? with
      | none =>
        exfalso
        cases f with
        | zero => cases h
        | succ f =>
          unfold anc at h
          have : ops.toList[x.on]? = none := by simpa using hx'
          rw [this] at h; cases h
      | some ox => exact anc_listed hc f x.on k ox hx' (fun e he hbe => hc x.on ox hx' hl e he hbe) h

/-- The frame and the world while the region runs: what is listed and still read holds in its slot. -/
structure MidN (ops : Array Oper) (a0 : Act) (S : World → Prop) (F : Nat → Value → World → Prop) (listed : Array Bool) (a : Act) (w : World) : Prop where
  size : listed.size = ops.size
  tmps : a.tmps.size = a0.tmps.size
  defers : a.defers = a0.defers
  out : ∀ t, outside ops t = true → a.tmps.getD t undef = a0.tmps.getD t undef
  world : S w
  held : ∀ (i : Nat) (o : Oper) (d : Tmp), ops[i]? = some o → o.dst = some d → listed.getD i false = true → (∃ k ok, ops[k]? = some ok ∧ listed.getD k true = false ∧ datT ok i = true) → F i (a.tmps.getD d undef) w

def EachN (P : Program) (ops : Array Oper) (Q : Exit → Act → World → Prop) (a0 : Act) (S : World → Prop) (F : Nat → Value → World → Prop) (i : Nat) (o : Oper) : Prop :=
  ∀ (a : Act) (w : World), a.tmps.size = a0.tmps.size → a.defers = a0.defers → (∀ t, outside ops t = true → a.tmps.getD t undef = a0.tmps.getD t undef) → S w →
    (∀ (j : Nat) (oe : Oper) (d : Tmp), datT o j = true → ops[j]? = some oe → oe.dst = some d → F j (a.tmps.getD d undef) w) →
    ∀ K : Act → World → Prop, (∀ v w', S w' → (∀ j, needB ops.toList i j = true → ∀ u, F j u w → F j u w') → F i v w' → K (a.put o.dst v) w') → wpOp P ops Q i K a w

theorem wpAny_need {a0 : Act} {S : World → Prop} {F : Nat → Value → World → Prop} {last : Oper} (ho : orderly .any a0.tmps.size 0 [] ops.toList = true) (ht : tails .any ops.toList = true) (hl : ops[ops.size - 1]? = some last)
    (hop : ∀ (i : Nat) (o : Oper), ops[i]? = some o → i < ops.size - 1 → EachN P ops Q a0 S F i o)
    (hlast : ∀ (a : Act) (w : World), a.tmps.size = a0.tmps.size → a.defers = a0.defers → (∀ t, outside ops t = true → a.tmps.getD t undef = a0.tmps.getD t undef) → S w →
      (∀ (i : Nat) (o : Oper) (d : Tmp), ops[i]? = some o → i < ops.size - 1 → o.dst = some d → datT last i = true → F i (a.tmps.getD d undef) w) → ∀ K : Act → World → Prop, (∀ a' w', Q .normal a' w' → K a' w') → wpOp P ops Q (ops.size - 1) K a w) :
    ∀ (fuel : Nat) (listed : Array Bool) (a : Act) (w : World), MidN ops a0 S F listed a w → Closed .any ops listed → listed.getD (ops.size - 1) true = false → unl listed ops.size ≤ fuel → wpAny P .any ops Q fuel listed a w := by
  have hlt0 : ops.size - 1 < ops.size := (Array.getElem?_eq_some_iff.1 hl).1
  have hon : ∀ (i : Nat) (o : Oper), ops[i]? = some o → ∀ e ∈ o.after, Region.binds .any e = true → e.on < i := fun i o hi e he hbd => by
    have := orderly_on ops.toList 0 [] ho i o (by simpa using hi) e he hbd; omega
  have hdst : ∀ (i : Nat) (o : Oper) (d : Tmp), ops[i]? = some o → o.dst = some d → d < a0.tmps.size := fun i o d hi hd => (orderly_dst ops.toList 0 [] ho i o d (by simpa using hi) hd).1
  have hone : ∀ (i : Nat) (o : Oper) (d : Tmp), ops[i]? = some o → o.dst = some d → ∀ (j : Nat) (o' : Oper), ops[j]? = some o' → i ≠ j → o'.dst ≠ some d := fun i o d hi hd j o' hj hij e => by
    rcases Nat.lt_or_gt_of_ne hij with h | h
    · exact (orderly_dst ops.toList 0 [] ho i o d (by simpa using hi) hd).2.2 j o' (by simpa using hj) h e
    · exact (orderly_dst ops.toList 0 [] ho j o' d (by simpa using hj) e).2.2 i o (by simpa using hi) h hd
  intro fuel
  induction fuel with
  | zero =>
    intro listed a w hm hcl hul hf
    exfalso
    have := unl_set listed _ hul ops.size
    rw [if_pos hlt0] at this
    omega
  | succ fuel ih =>
    intro listed a w hm hcl hul hf
    refine ⟨fun hr => ?_, fun i hi => ?_⟩
    · exfalso
      have h1 := ready_none hm.size hon hr _ hlt0
      have hlt : ops.size - 1 < listed.size := by have := hm.size; omega
      simp [hlt] at hul h1
      rw [h1] at hul; cases hul
    obtain ⟨hul2, o, ho', hall⟩ := mem_ready.1 hi
    have hlt : i < ops.size := (Array.getElem?_eq_some_iff.1 ho').1
    by_cases e : i = ops.size - 1
    · subst e
      rw [hl] at ho'
      obtain rfl := Option.some.inj ho'
      have hab := fun j hj => all_before ht hcl hl hall _ j (Nat.le_refl _) hj
      refine hlast a w hm.tmps hm.defers hm.out hm.world (fun j oj d hj hjl hd hdep => hm.held j oj d hj hd (hab j hjl) ⟨_, _, hl, hul2, hdep⟩) _ fun a' w' hq => ?_
      have hrd : Region.ready .any ops (listed.setIfInBounds (ops.size - 1) true) = [] := by
        rw [List.eq_nil_iff_forall_not_mem]
        intro j hj
        obtain ⟨hl', o', ho'', -⟩ := mem_ready.1 hj
        have hj' : j < ops.size := (Array.getElem?_eq_some_iff.1 ho'').1
        have hls : ops.size - 1 < listed.size := by have := hm.size; omega
        by_cases ej : ops.size - 1 = j
        · subst ej; simp [hls] at hl'
        · rw [getD_set_ne true ej] at hl'
          have h1 := hab j (by omega)
          have hjs : j < listed.size := by have := hm.size; omega
          simp [hjs] at hl' h1
          rw [h1] at hl'; cases hl'
      cases fuel with
      | zero => exact ⟨hrd, hq⟩
      | succ fuel => exact ⟨fun _ => hq, fun j hj => by rw [hrd] at hj; cases hj⟩
    · refine hop i o ho' (by omega) a w hm.tmps hm.defers hm.out hm.world (fun j oe d hdj hoe hd => by
        obtain ⟨e, he, rfl, hb⟩ := depT_iff.1 (datT_dep hdj)
        exact hm.held e.on oe d hoe hd (hall e he hb) ⟨i, o, ho', hul2, hdj⟩) _ fun v w' hS hst hF => ?_
      have hls : listed.size = ops.size := hm.size
      refine ih _ _ _ ⟨by simp [hm.size], ?_, ?_, fun t ht => ?_, hS, fun j oj d hj hd hlj hcons => ?_⟩ (fun k ok hk hlk e' he' hb' => ?_) ?_ ?_
      · cases o.dst <;> simp [Act.put, hm.tmps]
      · cases o.dst <;> simp [Act.put, hm.defers]
      · rw [← hm.out t ht]
        cases hd : o.dst with
        | none => rfl
        | some d =>
          have hne : d ≠ t := by
            intro e; subst e
            unfold outside at ht
            rw [Array.all_eq_true_iff_forall_mem] at ht
            have := ht o (Array.mem_of_getElem? ho')
            rw [hd] at this; simp at this
          simp [Act.put, Array.getElem?_setIfInBounds_ne hne]
      · by_cases e : i = j
        · subst e
          rw [ho'] at hj
          obtain rfl := Option.some.inj hj
          have hdl : d < a.tmps.size := by rw [hm.tmps]; exact hdst i o d ho' hd
          have : (a.put o.dst v).tmps.getD d undef = v := by rw [hd]; simp [Act.put, hdl]
          rw [this]; exact hF
        · have h1 : listed.getD j false = true := by rw [getD_set_ne false e] at hlj; exact hlj
          obtain ⟨k, ok, hk, huk, hdk⟩ := hcons
          have hki : i ≠ k := by
            intro e'; subst e'
            simp [show i < listed.size by omega] at huk
          have huk' : listed.getD k true = false := by rw [getD_set_ne true hki] at huk; exact huk
          have hanc : anc ops.toList ops.toList.length i k = false := by
            cases h : anc ops.toList ops.toList.length i k with
            | false => rfl
            | true =>
              have := anc_listed hcl _ i k o ho' hall h
              have hks : k < listed.size := by rw [hls]; exact (Array.getElem?_eq_some_iff.1 hk).1
              simp [hks] at this huk'
              rw [this] at huk'; cases huk'
          have h2 := hm.held j oj d hj hd h1 ⟨k, ok, hk, huk', hdk⟩
          have h3 : (a.put o.dst v).tmps.getD d undef = a.tmps.getD d undef := by
            cases hd' : o.dst with
            | none => rfl
            | some d' =>
              have hne : d' ≠ d := fun e' => hone j oj d hj hd i o ho' (Ne.symm e) (by rw [hd', e'])
              simp [Act.put, Array.getElem?_setIfInBounds_ne hne]
          rw [h3]; exact hst j (needB_of (Ne.symm e) (by simpa using hk) (Ne.symm hki) hanc hdk) _ h2
      · by_cases ek : i = k
        · subst ek
          rw [ho'] at hk
          obtain rfl := Option.some.inj hk
          have h1 := hall e' he' hb'
          have h2 : i ≠ e'.on := by have := hon i o ho' e' he' hb'; omega
          rw [getD_set_ne false h2]; exact h1
        · rw [getD_set_ne false ek] at hlk
          have h1 := hcl k ok hk hlk e' he' hb'
          by_cases e2 : i = e'.on
          · rw [← e2]; simp [show i < listed.size by omega]
          · rw [getD_set_ne false e2]; exact h1
      · rw [getD_set_ne true e]; exact hul
      · have := unl_set listed i hul2 ops.size
        rw [if_pos hlt] at this; omega

/-- What is asked of one operation: it keeps what may still be read. -/
def Obn (P : Program) (Q : Exit → Act → World → Prop) (l : List Oper) (base : List (Tmp × Value)) (dsts : List (Option Tmp)) (S : World → Prop) (fs : List FactP) (i : Nat) (o : Oper) : Prop :=
  ∀ (a : Act) (w : World), S w → (∀ t v, base.lookup t = some v → a.tmps.getD t undef = v) →
    (∀ j d, dsts[j]? = some (some d) → datT o j = true → factP fs j (a.tmps.getD d undef) w) →
    ∀ K : Act → World → Prop, (∀ v w', S w' → (∀ j, needB l i j = true → ∀ u, factP fs j u w → factP fs j u w') → factP fs i v w' → K (a.put o.dst v) w') →
      (o.guard = none ∨ ∃ j d, o.guard = some (j, true) ∧ dsts[j]? = some (some d) ∧ a.tmps.getD d undef = .bool true) ∧ o.wp P a w K Q
theorem obn_of {l : List Oper} {base : List (Tmp × Value)} {dsts : List (Option Tmp)} {S : World → Prop} {fs : List FactP} {i : Nat} {o : Oper} (hd : dataOnly o = true) (h : Obt P Q base dsts S fs i o) : Obn P Q l base dsts S fs i o :=
  fun a w h1 h2 h3 K hK => h a w h1 h2 (fun j d hj hdj => h3 j d hj (dat_of hd hdj)) K fun v w' g1 g2 g3 => hK v w' g1 (fun j _ u => g2 j u) g3

theorem wp_region_need {id : Nat} {a : Act} {w : World} {S : World → Prop} (fs : List FactP) (base : List (Tmp × Value)) (dsts : List (Option Tmp)) (last : Oper) (k : Nat)
    (hm : P.follows .mixedOrders = true) (hk : ops.size = k + 1) (hlk : ops[k]? = some last) (ho : orderly .any a.tmps.size 0 [] ops.toList = true) (ht : tails .any ops.toList = true) (hd : ops.toList.map (·.dst) = dsts)
    (hbo : base.all (fun p => outside ops p.1) = true) (hb : ∀ t v, base.lookup t = some v → a.tmps.getD t undef = v)
    (hS : S w.drew) (hob : AllOps (Obn P Q ops.toList base dsts S fs) 0 ops.toList.dropLast) (hgl : last.guard = none)
    (hlast : ∀ (a' : Act) (w' : World), a'.tmps.size = a.tmps.size → a'.defers = a.defers → (∀ t, outside ops t = true → a'.tmps.getD t undef = a.tmps.getD t undef) → S w' →
      (∀ j d, dsts[j]? = some (some d) → j < k → datT last j = true → factP fs j (a'.tmps.getD d undef) w') → ∀ K : Act → World → Prop, (∀ v w2, Q .normal (a'.put last.dst v) w2 → K (a'.put last.dst v) w2) → last.wp P a' w' K Q) :
    (Code.region id ops true).wp P Q a w := by
  have hl : ops[ops.size - 1]? = some last := by rw [hk]; exact hlk
  have hdst' : ∀ (j : Nat) (d : Tmp), dsts[j]? = some (some d) → ∃ o, ops[j]? = some o ∧ o.dst = some d := fun j d h => by
    rw [← hd, List.getElem?_map] at h
    cases hj : ops.toList[j]? with
    | none => rw [hj] at h; simp at h
    | some o =>
      rw [hj] at h
      exact ⟨o, by simpa using hj, by simpa using h⟩
  have hmem : ∀ (t : Tmp) (v : Value) (l : List (Tmp × Value)), l.lookup t = some v → ∃ p ∈ l, p.1 = t := fun t v l => by
    induction l with
    | nil => intro h; simp at h
    | cons x r ih =>
      intro h
      rw [List.lookup_cons] at h
      by_cases e : t == x.1
      · exact ⟨x, List.mem_cons_self, (by simpa using e : t = x.1).symm⟩
      · have e' : (t == x.1) = false := by simpa using e
        rw [e'] at h
        obtain ⟨p, hp, hpt⟩ := ih h
        exact ⟨p, List.mem_cons_of_mem _ hp, hpt⟩
  have hstart : ∀ k, k ≤ ops.size → unl (Array.replicate ops.size false) k = k := by
    intro k
    induction k with
    | zero => intro _; rfl
    | succ k ih =>
      intro hk
      rw [unl, ih (by omega)]
      have : (Array.replicate ops.size false).getD k true = false := by simp [show k < ops.size by omega]
      rw [this]; rfl
  refine wp_region_any hm (wpAny_need (F := fun i u w => factP fs i u w) ho ht hl (fun i o hi hil a' w' hts hds hout hSw hdep K hK => ?_) (fun a' w' h1 h2 h3 h4 h5 K hK => ?_) _ _ _ _ ⟨by simp, rfl, rfl, fun _ _ => rfl, hS, fun i o d hi _ hl _ => ?_⟩ (fun k o hk hlk => ?_) ?_ ?_)
  · have hbase : ∀ t v, base.lookup t = some v → a'.tmps.getD t undef = v := fun t v h => by
      obtain ⟨p, hp, rfl⟩ := hmem t v base h
      rw [List.all_eq_true] at hbo
      rw [hout p.1 (hbo p hp)]; exact hb p.1 v h
    have hdep' : ∀ j d, dsts[j]? = some (some d) → datT o j = true → factP fs j (a'.tmps.getD d undef) w' := fun j d h he => by
      obtain ⟨oe, hoe, hde⟩ := hdst' j d h
      exact hdep j oe d he hoe hde
    have hip : ops.toList.dropLast[i]? = some o := by
      have : ops.toList[i]? = some o := by simpa using hi
      rw [List.getElem?_dropLast, if_pos (by simpa using hil)]; exact this
    have hobi := allOps_at _ 0 hob i o hip
    rw [Nat.zero_add] at hobi
    obtain ⟨hg, hwp⟩ := hobi a' w' hSw hbase hdep' K hK
    have hwant : Region.wanted o (yielded ops a'.tmps) = true := by
      rcases hg with hg | ⟨j, d, hg, hj, hv⟩
      · simp [Region.wanted, hg]
      · obtain ⟨oj, hoj, hdj⟩ := hdst' j d hj
        have h1 : a'.tmps[d]? = some (.bool true) := by
          cases h : a'.tmps[d]? with
          | none => simp [h] at hv; cases hv
          | some u => simp [h] at hv; rw [hv]
        simp [Region.wanted, hg, yielded, hoj, hdj, h1]
    unfold wpOp
    simp only [hi, hwant, if_true]
    exact .inl hwp
  · have hw := hlast a' w' h1 h2 h3 h4 (fun j d h hj hdep => by
      obtain ⟨o, ho', hd'⟩ := hdst' j d h
      exact h5 j o d ho' (by omega) hd' hdep) K fun v w2 hq => hK _ _ hq
    unfold wpOp
    have hwant : Region.wanted last (yielded ops a'.tmps) = true := by simp [Region.wanted, hgl]
    simp only [hl, hwant, if_true]
    exact .inl hw
  · exfalso
    have hlt : i < ops.size := (Array.getElem?_eq_some_iff.1 hi).1
    simp [hlt] at hl
  · exfalso
    have hlt : k < ops.size := (Array.getElem?_eq_some_iff.1 hk).1
    simp [hlt] at hlk
  · have hlt : ops.size - 1 < ops.size := by omega
    simp [hlt]
  · rw [hstart _ (Nat.le_refl _)]; exact Nat.le_refl _
end
end Go.Proofs.YtcliiefedmiokaaGreat
