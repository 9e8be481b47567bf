/-
  Texts of this claim, one behind the other: IvS, IvF, RowFn, IntF, Subs, IvI, LawsIv.
-/
import Derived.Test.YtpinkjgpdapgeaaPackD
import Derived.Test.YtpinkjgpdapgeaaPackC
import Derived.Test.YtpinkjgpdapgeaaPackB
import Derived.Laws.IdiomCopy
import Derived.Lib.SliceRun
import Derived.Shelf.Abstract
import Derived.Deep.LoopGhost
import Derived.Test.YtpinkjgpdapgeaaPackA
/-
  IntervalOf, IsHConvex, IsVConvex, IsConvex and IsPolyomino of the model.
-/
namespace Go.Proofs.Ytpinkjgpdapgeaa
open Go.RowKit

def IvRes (r : List Int) (w : World) (e : Ending) (w' : World) : Prop := e = .returned (.tuple #[.int .i64 (ivR r).1, .int .i64 (ivR r).2.1, .bool (ivR r).2.2]) ∧ w = w'

set_option maxHeartbeats 1000000 in
theorem specInterval_any (v : Value) (r : List Int) (w : World) (hin : InRow w v r) :
    Calls Try.prog 7 #[v] w (IvRes r w) := by
  obtain ⟨a, c, rfl, hm, hp⟩ := hin
  unfold maxLen at hm
  have HP := hide hp
  obtain ⟨n, hn⟩ : ∃ n, n = r.length := ⟨_, rfl⟩
  have HN := hide hn
  rw [← hn] at hm ⊢
  clear hp hn
  go_enter Try.func7, Try.ntmps7
  go_wp2
  go_loop [5, 6, 11] (fun first count i => ∃ (k c : Nat) (fi : Int), k ≤ n ∧ c ≤ k ∧ i = .int .i64 k ∧ first = .int .i64 fi ∧ count = .int .i64 c ∧ IvSt r k fi c) (fun _ _ i => n - (intOf i).toNat)
  case atStart => exact ⟨0, 0, -1, Nat.zero_le _, Nat.zero_le _, rfl, rfl, rfl, ivSt_zero r⟩
  case round =>
    obtain ⟨k, c, fi, hk, hck, rfl, rfl, rfl, hst⟩ := hrel
    have hz := hst.zero; have hpos := hst.pos
    have HS := hide hst
    clear hst
    by_cases hlt : k < n
    · have hk' : k < r.length := by rw [← HN.out]; exact hlt
      obtain ⟨g, o, rfl, hg, hc⟩ := HP.out.resolve_left (by omega)
      have hx := hc k hk'
      have hgd : r.getD k 0 = r[k] := by simp [List.getD_eq_getElem?_getD, hk']
      obtain ⟨x, hxx⟩ : ∃ x, x = r[k] := ⟨_, rfl⟩
      rw [← hxx] at hx hgd
      have HG := hide hgd
      clear hxx hc hgd
      by_cases h0 : x = 0
      · subst h0
        have HS2 := hide (ivSt_white HS.out HG.out)
        clear hz hpos
        go_wp2
        go_round
        case rel => exact ⟨k + 1, c, fi, by omega, by omega, by go_num, rfl, rfl, HS2.out⟩
        case measure => simp [intOf]; omega
      · by_cases h1 : x = 1
        · subst h1
          by_cases hc0 : c = 0
          · subst hc0
            have := hz rfl
            subst this
            have HS2 := hide (ivSt_first HS.out HG.out)
            clear hz hpos
            go_wp2
            go_round
            case rel => exact ⟨k + 1, 1, k, by omega, by omega, by go_num, rfl, by go_num, HS2.out⟩
            case measure => simp [intOf]; omega
          · obtain ⟨p1, p2⟩ := hpos hc0
            by_cases hkk : (k : Int) = fi + c
            · have HS2 := hide (ivSt_next HS.out hc0 HG.out hkk)
              have HK := hide hkk
              have hfc : fi + c ≤ n := by omega
              clear hz hpos hkk
              go_wp2
              · rename_i hb _
                have := HK.out
                simp [this] at hb
              go_round
              case rel => exact ⟨k + 1, c + 1, fi, by omega, by omega, by go_num, rfl, by go_num, HS2.out⟩
              case measure => simp [intOf]; omega
            · have HF : Hid (ivR r = (0, 0, false)) := hide (ivR_no (ivSt_gap HS.out hk' hc0 HG.out hkk))
              have hne : ((k : Int) == fi + c) = false := by simp [hkk]
              clear hz hpos hkk
              go_wp2
              go_ret3
              exact ⟨by rw [HF.out]; rfl, rfl⟩
        · have HF : Hid (ivR r = (0, 0, false)) := hide (ivR_no (ivSt_bad hk' (by rw [HG.out]; exact h0) (by rw [HG.out]; exact h1)))
          have hb0 : (x != 0) = true := by simp [h0]
          have hb1 : (x != 1) = true := by simp [h1]
          clear hz hpos
          go_wp2
          go_ret3
          exact ⟨by rw [HF.out]; rfl, rfl⟩
    · obtain rfl : k = r.length := by have := HN.out; omega
      have HF := hide (ivR_end HS.out)
      clear hz hpos
      go_wp2
      go_ret3
      exact ⟨by rw [HF.out]; rfl, rfl⟩

set_option maxHeartbeats 400000 in
theorem specHConvex_no (v : Value) (m : List (List Int)) (w : World) (hin : InMat w v m) (h : okB m = false) :
    Calls Try.prog 12 #[v] w fun e w' => e = .returned (.bool (hconvB m)) ∧ w = w' := by
  have HI := hide hin; have H := hide h
  have HF : Hid (hconvB m = false) := hide (by unfold hconvB; rw [h]; rfl)
  clear hin h
  go_enter Try.func12, Try.ntmps12
  go_wp2_with (with_reducible refine (specImageOk_any v m _ HI.out).mono ?_; rw [H.out]; rintro e w' ⟨rfl, rfl⟩)
  go_ret
  exact ⟨ret_bool HF.out.symm, rfl⟩

theorem rows_no {α : Type} {l : List α} {p : α → Bool} (k : Nat) (hk : k < l.length) (h : p l[k] = false) : l.all p = false := by
  rw [Bool.eq_false_iff]
  intro e
  rw [List.all_eq_true] at e
  rw [e _ (List.getElem_mem hk)] at h
  cases h

theorem rows_yes {α : Type} {l : List α} {p : α → Bool} (h : ∀ k, (hk : k < l.length) → p l[k] = true) : l.all p = true := by
  rw [List.all_eq_true]
  intro x hx
  obtain ⟨k, hk, rfl⟩ := List.mem_iff_getElem.1 hx
  exact h k hk

set_option maxHeartbeats 1000000 in
theorem specHConvex_yes (v : Value) (m : List (List Int)) (w : World) (hin : InMat w v m) (h : okB m = true) :
    Calls Try.prog 12 #[v] w fun e w' => e = .returned (.bool (hconvB m)) ∧ w = w' := by
  have HI := hide hin; have H := hide h
  obtain ⟨a, c, rfl, hm, hp⟩ := hin
  unfold maxLen at hm
  have HP := hide hp
  have HE : Hid (hconvB m = m.all fun r => (ivR r).2.2) := hide (by unfold hconvB; rw [h]; rfl)
  obtain ⟨n, hn⟩ : ∃ n, n = m.length := ⟨_, rfl⟩
  have HN := hide hn
  rw [← hn] at hm HI ⊢
  clear hp hn h
  go_enter Try.func12, Try.ntmps12
  go_wp2_with (with_reducible refine (specImageOk_any _ m _ HI.out).mono ?_; rw [H.out]; rintro e w' ⟨rfl, rfl⟩)
  go_loop [13] (fun i => ∃ k : Nat, k ≤ n ∧ i = .int .i64 k ∧ ∀ t, (h : t < m.length) → t < k → (ivR m[t]).2.2 = true) (fun i => n - (intOf i).toNat)
  case atStart => exact ⟨0, Nat.zero_le _, rfl, fun t _ h => absurd h (Nat.not_lt_zero _)⟩
  case round =>
    obtain ⟨k, hk, rfl, hall⟩ := hrel
    have HA := hide hall
    clear hall
    by_cases hlt : k < n
    · have hk' : k < m.length := by rw [← HN.out]; exact hlt
      obtain ⟨g, o, rfl, hg, hc⟩ := HP.out.resolve_left (by omega)
      obtain ⟨u, hx, hr⟩ := hc k hk'
      have HR := hide hr
      obtain ⟨p, q, b, hb⟩ : ∃ p q b, ivR m[k] = (p, q, b) := ⟨_, _, _, rfl⟩
      have HB := hide hb
      clear hr hb hc
      cases b with
      | true =>
        have HS : Hid (∀ t, (h : t < m.length) → t < k + 1 → (ivR m[t]).2.2 = true) := hide fun t h1 ht => by
          by_cases e : t = k
          · subst e; rw [HB.out]
          · exact HA.out t h1 (by omega)
        go_wp2_with (with_reducible refine (specInterval_any _ m[k] _ HR.out).mono ?_; unfold IvRes; rw [HB.out]; rintro e w' ⟨rfl, rfl⟩)
        go_round
        case rel => exact ⟨k + 1, by omega, by go_num, HS.out⟩
        case measure => simp [intOf]; omega
      | false =>
        have HF : Hid (hconvB m = false) := hide (by rw [HE.out]; exact rows_no k hk' (by rw [HB.out]))
        go_wp2_with (with_reducible refine (specInterval_any _ m[k] _ HR.out).mono ?_; unfold IvRes; rw [HB.out]; rintro e w' ⟨rfl, rfl⟩)
        go_ret
        exact ⟨ret_bool HF.out.symm, rfl⟩
    · have HY : Hid (hconvB m = true) := hide (by rw [HE.out]; exact rows_yes fun t h => HA.out t h (by have := HN.out; omega))
      go_wp2
      go_ret
      exact ⟨ret_bool HY.out.symm, rfl⟩

theorem specHConvex_any (v : Value) (m : List (List Int)) (w : World) (hin : InMat w v m) :
    Calls Try.prog 12 #[v] w fun e w' => e = .returned (.bool (hconvB m)) ∧ w = w' := by
  cases h : okB m with
  | false => exact specHConvex_no v m w hin h
  | true => exact specHConvex_yes v m w hin h

/-- TransposeOf of the model, whatever the argument. -/
theorem specTranspose_any (v : Value) (m : List (List Int)) (w : World) (hin : InMat w v m) :
    Calls Try.prog 32 #[v] w (MatRes (trB m) w) := by
  cases h : okB m with
  | false =>
    have e : trB m = [] := by unfold trB; rw [if_neg (by rw [h]; decide)]
    rw [e]
    exact specTransposeOf_no v m w hin h
  | true =>
    obtain ⟨R, C, f, rfl, hI⟩ := ok_img h
    rw [trB_mk hI]
    exact specTransposeOf_yes v R C f w hin hI

set_option maxHeartbeats 400000 in
theorem specVConvex_any (v : Value) (m : List (List Int)) (w : World) (hin : InMat w v m) :
    Calls Try.prog 16 #[v] w fun e w' => e = .returned (.bool (hconvB (trB m))) ∧ Below w.heap.size w w' := by
  have HI := hide hin
  clear hin
  obtain ⟨b, hb⟩ : ∃ b, b = hconvB (trB m) := ⟨_, rfl⟩
  have HB := hide hb
  rw [← hb]
  clear hb
  go_enter Try.func16, Try.ntmps16
  go_wp2_with fail
  refine (specTranspose_any v m _ HI.out).mono ?_
  rintro e w1 ⟨v1, rfl, o1, b1⟩
  have O1 := hide o1; have B1 := hide b1
  clear o1 b1
  go_wp2_with fail
  refine (specHConvex_any _ _ _ (inMat_own O1.out)).mono ?_
  rw [← HB.out]
  rintro e w2 ⟨rfl, rfl⟩
  go_wp2
  go_ret
  exact ⟨rfl, B1.out⟩

set_option maxHeartbeats 400000 in
theorem specConvex_any (v : Value) (m : List (List Int)) (w : World) (hin : InMat w v m) :
    Calls Try.prog 18 #[v] w fun e w' => e = .returned (.bool (convB m)) ∧ Below w.heap.size w w' := by
  have HI := hide hin
  clear hin
  cases hh : hconvB m with
  | false =>
    have HH := hide hh
    have HF : Hid (convB m = false) := hide (by unfold convB; rw [hh]; rfl)
    clear hh
    go_enter Try.func18, Try.ntmps18
    go_wp2_with (with_reducible refine (specHConvex_any v m _ HI.out).mono ?_; rw [HH.out]; rintro e w' ⟨rfl, rfl⟩)
    go_ret
    exact ⟨ret_bool HF.out.symm, Below.refl _ _⟩
  | true =>
    have HH := hide hh
    obtain ⟨b, hb⟩ : ∃ b, b = hconvB (trB m) := ⟨_, rfl⟩
    have HB := hide hb
    have HF : Hid (convB m = b) := hide (by unfold convB; rw [hh, hb]; rfl)
    clear hh hb
    go_enter Try.func18, Try.ntmps18
    go_wp2_with (with_reducible refine (specHConvex_any v m _ HI.out).mono ?_; rw [HH.out]; rintro e w' ⟨rfl, rfl⟩)
    refine (specVConvex_any v m _ HI.out).mono ?_
    rw [← HB.out]
    rintro e w2 ⟨rfl, b2⟩
    have B2 := hide b2
    clear b2
    go_wp2
    go_ret
    exact ⟨ret_bool HF.out.symm, B2.out⟩
end Go.Proofs.Ytpinkjgpdapgeaa
/-
  PURE: the run of black cells of a row: from its first black cell as many as the row's total, if there is one.
-/
namespace Go.Proofs.Ytpinkjgpdapgeaa
open Go

def Zo (l : List Int) : Prop := ∀ x ∈ l, x = 0 ∨ x = 1
theorem zo_sum : ∀ {l : List Int}, Zo l → 0 ≤ l.sum ∧ l.sum ≤ l.length
  | [], _ => by simp
  | x :: l, h => by
    have := zo_sum (l := l) fun y hy => h y (List.mem_cons_of_mem _ hy)
    have := h x List.mem_cons_self
    simp only [List.sum_cons, List.length_cons]
    omega
theorem zo_full : ∀ {l : List Int}, Zo l → l.sum = l.length → ∀ x ∈ l, x = 1
  | [], _, _ => fun x hx => by simp at hx
  | y :: l, h, e => by
    have hl : Zo l := fun y hy => h y (List.mem_cons_of_mem _ hy)
    have := zo_sum hl
    have hy := h y List.mem_cons_self
    simp only [List.sum_cons, List.length_cons] at e
    intro x hx
    rcases List.mem_cons.1 hx with rfl | hx
    · omega
    · exact zo_full hl (by omega) x hx
theorem zo_none : ∀ {l : List Int}, Zo l → l.sum = 0 → ∀ x ∈ l, x = 0
  | [], _, _ => fun x hx => by simp at hx
  | y :: l, h, e => by
    have hl : Zo l := fun y hy => h y (List.mem_cons_of_mem _ hy)
    have := zo_sum hl
    have hy := h y List.mem_cons_self
    simp only [List.sum_cons] at e
    intro x hx
    rcases List.mem_cons.1 hx with rfl | hx
    · omega
    · exact zo_none hl (by omega) x hx
theorem sum_ones : ∀ {l : List Int}, (∀ x ∈ l, x = 1) → l.sum = l.length
  | [], _ => rfl
  | y :: l, h => by
    have := sum_ones (l := l) fun y hy => h y (List.mem_cons_of_mem _ hy)
    have := h y List.mem_cons_self
    simp only [List.sum_cons, List.length_cons]
    omega
theorem sum_nones : ∀ {l : List Int}, (∀ x ∈ l, x = 0) → l.sum = 0
  | [], _ => rfl
  | y :: l, h => by
    have := sum_nones (l := l) fun y hy => h y (List.mem_cons_of_mem _ hy)
    have := h y List.mem_cons_self
    simp only [List.sum_cons]
    omega
theorem getD_at {l : List Int} {i : Nat} (h : i < l.length) : l.getD i 0 = l[i] := by rw [List.getD_eq_getElem?_getD, List.getElem?_eq_getElem h, Option.getD_some]
theorem zo_sub {l m : List Int} (h : Zo l) (hs : ∀ x ∈ m, x ∈ l) : Zo m := fun x hx => h x (hs x hx)
theorem zo_split (l : List Int) (a c : Nat) : l.sum = (l.take a).sum + ((l.drop a).take c).sum + ((l.drop a).drop c).sum := by
  rw [← List.sum_append, ← List.sum_append, List.append_assoc, List.take_append_drop, List.take_append_drop]

/-- No black cell. -/
theorem iv_none {r : List Int} (h : Zo r) (e : r.sum = 0) : ivR r = (0, 0, true) := by
  have := zo_none h e
  have hA : IvAt r 0 0 := ⟨fun i hi => by rw [getD_at hi]; exact .inl (this _ (List.getElem_mem hi)), fun i hi => by
    rw [getD_at hi, this _ (List.getElem_mem hi)]
    exact ⟨fun e => (by cases e), fun h => (by omega)⟩, by omega, fun _ => rfl⟩
  rw [ivR_yes hA]; rfl
/-- A cell that is neither. -/
theorem iv_bad {r : List Int} (k : Nat) (hk : k < r.length) (h0 : r[k] ≠ 0) (h1 : r[k] ≠ 1) : ivR r = (0, 0, false) :=
  ivR_no (ivSt_bad hk (by rw [getD_at hk]; exact h0) (by rw [getD_at hk]; exact h1))

/-- f is the first black cell. -/
structure Fst (r : List Int) (f : Nat) : Prop where
  lt : f < r.length
  one : r.getD f 0 = 1
  no : ∀ t, t < f → r.getD t 0 ≠ 1

theorem fst_zero {r : List Int} {f : Nat} (h : Zo r) (hf : Fst r f) : (r.take f).sum = 0 := by
  refine sum_nones fun x hx => ?_
  obtain ⟨t, ht, rfl⟩ := List.getElem_of_mem hx
  rw [List.length_take] at ht
  rw [List.getElem_take]
  have hn := hf.no t (by omega)
  rw [getD_at (by omega)] at hn
  exact (h _ (List.getElem_mem _)).resolve_right hn
theorem fst_fits {r : List Int} {f : Nat} (h : Zo r) (hf : Fst r f) : 1 ≤ r.sum ∧ f + r.sum ≤ r.length ∧ (r.drop f).sum = r.sum := by
  have hl := hf.lt
  have e := zo_split r f (r.length - f)
  have hd : Zo (r.drop f) := zo_sub h fun x => List.mem_of_mem_drop
  have z := fst_zero h hf
  have t := List.sum_append (l₁ := r.take f) (l₂ := r.drop f)
  rw [List.take_append_drop] at t
  have s := zo_sum hd
  rw [List.length_drop] at s
  have p : (r.drop f).sum ≠ 0 := by
    intro e0
    have := zo_none hd e0 (r[f]) (by rw [List.mem_iff_getElem]; exact ⟨0, by rw [List.length_drop]; omega, by simp⟩)
    have h1 := hf.one
    rw [getD_at hl] at h1
    omega
  refine ⟨by omega, by omega, by omega⟩
/-- The cells from f on, as many as the total. -/
def midL (r : List Int) (f s : Nat) : List Int := (r.drop f).take s
theorem mid_len {r : List Int} {f s : Nat} (h : f + s ≤ r.length) : (midL r f s).length = s := by
  unfold midL; rw [List.length_take, List.length_drop]; omega
theorem mid_at {r : List Int} {f s i : Nat} (hi : i < (midL r f s).length) (h : f + i < r.length) : (midL r f s)[i] = r[f + i] := by
  have h2 : i < ((r.drop f).take s).length := hi
  have : ((r.drop f).take s)[i] = r[f + i] := by rw [List.getElem_take, List.getElem_drop]
  exact this

theorem iv_run {r : List Int} {f s : Nat} (h : Zo r) (hf : Fst r f) (hs : r.sum = s) (hm : ∀ x ∈ midL r f s, x ≠ 0) : ivR r = ((f : Int), (s : Int), true) := by
  obtain ⟨h1, h2, h3⟩ := fst_fits h hf
  have hz : Zo (midL r f s) := zo_sub h fun x hx => List.mem_of_mem_drop (List.mem_of_mem_take hx)
  have hone : ∀ x ∈ midL r f s, x = 1 := fun x hx => (hz x hx).resolve_left (hm x hx)
  have hl : (midL r f s).length = s := mid_len (by omega)
  have hsum : (midL r f s).sum = (midL r f s).length := sum_ones hone
  rw [hl] at hsum
  unfold midL at hsum
  have hsp := zo_split r f s
  have hz0 := fst_zero h hf
  have hrest : Zo ((r.drop f).drop s) := zo_sub h fun x hx => List.mem_of_mem_drop (List.mem_of_mem_drop hx)
  have hr0 : ((r.drop f).drop s).sum = 0 := by omega
  have hzero := zo_none hrest hr0
  refine ivR_yes ⟨fun i hi => by rw [getD_at hi]; exact h _ (List.getElem_mem hi), fun i hi => ?_, by omega, fun e => by omega⟩
  rw [getD_at hi]
  constructor
  · intro e
    by_cases c1 : i < f
    · have := hf.no i c1
      rw [getD_at hi] at this
      exact absurd e this
    · refine ⟨by omega, ?_⟩
      by_cases c2 : i < f + s
      · exact c2
      · have := hzero r[i] (by
          rw [List.mem_iff_getElem]
          refine ⟨i - f - s, by rw [List.length_drop, List.length_drop]; omega, ?_⟩
          rw [List.getElem_drop, List.getElem_drop]
          congr 1
          omega)
        omega
  · rintro ⟨c1, c2⟩
    have hi2 : i - f < (midL r f s).length := by omega
    have := hone _ (List.getElem_mem hi2)
    rw [mid_at hi2 (by omega)] at this
    rw [← this]
    congr 1
    omega

theorem iv_gap {r : List Int} {f s : Nat} (h : Zo r) (hf : Fst r f) (hs : r.sum = s) {x : Int} (hx : x ∈ midL r f s) (hx0 : x = 0) : ivR r = (0, 0, false) := by
  refine ivR_no fun a c H => ?_
  obtain ⟨h1, h2, h3⟩ := fst_fits h hf
  have hfit := H.fits
  have hl := hf.lt
  have f1 := (H.run f hl).1 hf.one
  have ea : a = f := by
    by_cases c1 : a < f
    · exact absurd ((H.run a (by omega)).2 ⟨by omega, by omega⟩) (hf.no a c1)
    · omega
  subst ea
  have hc : (c : Int) = s := by
    have hsp := zo_split r a c
    have hz0 := fst_zero h hf
    have e1 : ((r.drop a).take c).sum = c := by
      have hlen : (midL r a c).length = c := mid_len (by omega)
      have := sum_ones (l := midL r a c) fun y hy => by
        obtain ⟨t, ht, rfl⟩ := List.getElem_of_mem hy
        have ht2 : t < c := by omega
        rw [mid_at ht (by omega)]
        have := (H.run (a + t) (by omega)).2 ⟨by omega, by omega⟩
        rwa [getD_at (by omega)] at this
      rw [hlen] at this
      exact this
    have e2 : ((r.drop a).drop c).sum = 0 := sum_nones fun y hy => by
      obtain ⟨t, ht, rfl⟩ := List.getElem_of_mem hy
      rw [List.length_drop, List.length_drop] at ht
      rw [List.getElem_drop, List.getElem_drop]
      have hr := H.run (a + (c + t)) (by omega)
      have hcell := H.cell (a + (c + t)) (by omega)
      rw [getD_at (by omega)] at hr hcell
      rcases hcell with e | e
      · exact e
      · have := hr.1 e; omega
    omega
  have hcs : c = s := by omega
  subst hcs
  obtain ⟨t, ht, rfl⟩ := List.getElem_of_mem hx
  have hlen : (midL r a c).length = c := mid_len (by omega)
  rw [mid_at ht (by omega)] at hx0
  have := (H.run (a + t) (by omega)).2 ⟨by omega, by omega⟩
  rw [getD_at (by omega), hx0] at this
  cases this

theorem zo_of {r : List Int} (h : r.any (fun x => !cellOk x) = false) : Zo r := by
  intro x hx
  rw [List.any_eq_false] at h
  have := h x hx
  simp [cellOk] at this
  by_cases e : x = 0
  · exact .inl e
  · exact .inr (this e)
theorem zo_bad {r : List Int} (h : r.any (fun x => !cellOk x) = true) : ivR r = (0, 0, false) := by
  rw [List.any_eq_true] at h
  obtain ⟨x, hx, h⟩ := h
  obtain ⟨k, hk, rfl⟩ := List.getElem_of_mem hx
  have : r[k] ≠ 0 ∧ r[k] ≠ 1 := by simpa [cellOk] using h
  exact iv_bad k hk this.1 this.2
end Go.Proofs.Ytpinkjgpdapgeaa
/-
  slices.IndexFunc, ContainsFunc, DeleteFunc over rows.
-/
namespace Go.Proofs.Ytpinkjgpdapgeaa
open Go.RowKit Go.Shelf

/-- What the function value answers of a row that meets ok, in whatever world has grown out of W. -/
def RowPred (g : Nat) (cb : Array Value) (ok : List Int → Prop) (p : List Int → Bool) (W : World) : Prop :=
  ∀ (r : List Int) (u : Value) (w : World), ok r → Below W.heap.size W w → InRow w u r → Calls Try.prog g (#[u] ++ cb) w fun e w' => e = .returned (.bool (p r)) ∧ Below w.heap.size w w'
theorem rowPred_mono {g : Nat} {cb : Array Value} {ok : List Int → Prop} {p : List Int → Bool} {W W' : World} (h : RowPred g cb ok p W) (hb : Below W.heap.size W W') : RowPred g cb ok p W' :=
  fun r u w ho hw hr => h r u w ho (hb.trans (hw.mono hb.size)) hr
/-- The place of the first row at which p holds, or -1. -/
def idxP (p : List Int → Bool) (m : List (List Int)) : Int := if m.findIdx p < m.length then (m.findIdx p : Nat) else -1
theorem idxP_hit {p : List Int → Bool} {m : List (List Int)} {k : Nat} (hk : k < m.length) (h : p m[k] = true) (ha : ∀ t, (ht : t < m.length) → t < k → p m[t] = false) : idxP p m = k := by
  have : m.findIdx p = k := (List.findIdx_eq hk).2 ⟨h, fun j hj => ha j (by omega) hj⟩
  rw [idxP, this, if_pos hk]
theorem idxP_miss {p : List Int → Bool} {m : List (List Int)} (ha : ∀ t, (ht : t < m.length) → p m[t] = false) : idxP p m = -1 := by
  rw [idxP, if_neg]
  intro h
  have := List.findIdx_getElem (w := h)
  rw [ha _ h] at this; cases this
theorem idxP_any (p : List Int → Bool) (m : List (List Int)) : decide (0 ≤ idxP p m) = m.any p := by
  cases h : m.any p with
  | true =>
    rw [List.any_eq_true] at h
    obtain ⟨x, hx, hp⟩ := h
    have := List.findIdx_lt_length_of_exists ⟨x, hx, hp⟩
    rw [idxP, if_pos this]; simp
  | false =>
    rw [List.any_eq_false] at h
    rw [idxP_miss fun t ht => by simpa using h _ (List.getElem_mem ht)]; rfl
set_option maxHeartbeats 1000000 in
theorem idxRows_any (v : Value) (m : List (List Int)) (g : Nat) (cb : Array Value) (ok : List Int → Prop) (p : List Int → Bool) (w : World) (eg : ∀ args w, (callFunc g args).run Try.prog w = .ok (.enter g args) w) (hin : InMat w v m) (hok : ∀ r ∈ m, ok r) (hp : RowPred g cb ok p w) :
    Calls Try.prog 37 #[v, .func (.func g) #[] cb] w fun e w' => e = .returned (.int .i64 (idxP p m)) ∧ Below w.heap.size w w' := by
  obtain ⟨a, c, rfl, hm, hpl⟩ := hin
  unfold maxLen at hm
  have HP := hide hp; have HOK := hide hok
  clear hp hok
  by_cases h0 : m.length = 0
  · have hr : m = [] := List.eq_nil_of_length_eq_zero h0
    subst hr
    clear hpl h0 hm
    go_enter Try.func37, Try.ntmps37
    go_wp2
    go_loop [8] (fun i => i = .int .i64 0) (fun _ => 0)
    case atStart => rfl
    case round =>
      obtain rfl := hrel
      go_wp2
      go_ret
      exact ⟨rfl, Below.refl _ _⟩
  · obtain ⟨b, o, rfl, hg, hc⟩ := hpl.resolve_left h0
    have HC := hide hc; have HG := hide hg
    obtain ⟨n, hn⟩ : ∃ n, n = m.length := ⟨_, rfl⟩
    have HN := hide hn
    rw [← hn] at hm ⊢
    clear hpl hc h0 hn hg
    go_enter Try.func37, Try.ntmps37
    go_wp2
    go_loopw [8] (fun i w' => ∃ k : Nat, k ≤ n ∧ i = .int .i64 k ∧ (∀ t, (h : t < m.length) → t < k → p m[t] = false) ∧ Below w.heap.size w w') (fun i _ => n - (intOf i).toNat)
    case atStart => exact ⟨0, Nat.zero_le _, rfl, fun t _ h => absurd h (Nat.not_lt_zero _), Below.refl _ _⟩
    case round =>
      obtain ⟨k, hk, rfl, hall, hb⟩ := hrel
      have HA := hide hall; have HB := hide hb
      clear hall hb
      by_cases hlt : k < n
      · have hk' : k < m.length := by rw [← HN.out]; exact hlt
        obtain ⟨u, hu, hru⟩ := HC.out k hk'
        have hx := below_cell HB.out HG.out hu
        have HCALL := hide (HP.out m[k] u wr (HOK.out _ (List.getElem_mem hk')) HB.out (inRow_below hru HB.out))
        have HHIT := hide (fun h => idxP_hit (p := p) hk' h HA.out)
        have HST : Hid (p m[k] = false → ∀ t, (h : t < m.length) → t < k + 1 → p m[t] = false) := hide fun h t h1 ht => by
          by_cases e : t = k
          · subst e; exact h
          · exact HA.out t h1 (by omega)
        clear hu hru
        obtain ⟨q, hq⟩ : ∃ q, q = p m[k] := ⟨_, rfl⟩
        rw [← hq] at HCALL HHIT HST
        clear hq
        cases q with
        | true =>
          have HF := hide (HHIT.out rfl); clear HHIT HST
          go_wp2_with (go_at_fn g; refine HCALL.out.mono ?_; rintro e w9 ⟨rfl, hb9⟩; have HB9 := hide (HB.out.trans (hb9.mono HB.out.size)); clear hb9)
          go_ret
          exact ⟨by rw [HF.out]; rfl, HB9.out⟩
        | false =>
          have HS2 := hide (HST.out rfl); clear HST HHIT
          go_wp2_with (go_at_fn g; refine HCALL.out.mono ?_; rintro e w9 ⟨rfl, hb9⟩; have HB9 := hide (HB.out.trans (hb9.mono HB.out.size)); clear hb9)
          go_roundw
          case rel => exact ⟨k + 1, by omega, by go_num, HS2.out, HB9.out⟩
          case measure => simp [intOf]; omega
      · have HY := hide (idxP_miss (p := p) fun t h => HA.out t h (by have := HN.out; omega))
        go_wp2
        go_ret
        exact ⟨by rw [HY.out]; rfl, HB.out⟩
set_option maxHeartbeats 400000 in
theorem containsRows_any (v : Value) (m : List (List Int)) (g : Nat) (cb : Array Value) (ok : List Int → Prop) (p : List Int → Bool) (w : World) (eg : ∀ args w, (callFunc g args).run Try.prog w = .ok (.enter g args) w) (hin : InMat w v m) (hok : ∀ r ∈ m, ok r) (hp : RowPred g cb ok p w) :
    Calls Try.prog 29 #[v, .func (.func g) #[] cb] w fun e w' => e = .returned (.bool (m.any p)) ∧ Below w.heap.size w w' := by
  have HI := hide (idxRows_any v m g cb ok p w eg hin hok hp)
  have HY := hide (idxP_any p m)
  have hlo : -1 ≤ idxP p m ∧ idxP p m ≤ maxLen := by
    obtain ⟨a, c, -, hm, -⟩ := hin
    unfold idxP
    by_cases h : m.findIdx p < m.length
    · rw [if_pos h]; omega
    · rw [if_neg h]; exact ⟨by omega, by unfold maxLen; omega⟩
  unfold maxLen at hlo
  obtain ⟨q, hq⟩ : ∃ q, q = idxP p m := ⟨_, rfl⟩
  rw [← hq] at HI HY hlo
  rw [← HY.out]
  obtain ⟨hlo, hhi⟩ := hlo
  clear hin hok hp hq eg HY
  go_enter Try.func29, Try.ntmps29
  go_wp2_with (go_at_call 37; refine HI.out.mono ?_; rintro e w9 ⟨rfl, hb9⟩; have HB9 := hide hb9; clear hb9)
  go_ret
  exact ⟨rfl, HB9.out⟩
end Go.Proofs.Ytpinkjgpdapgeaa
/-
  slices.IndexFunc and ContainsFunc over integers at a predicate that reads nothing; slices.Index and Contains.
-/
namespace Go.Proofs.Ytpinkjgpdapgeaa
open Go.RowKit Go.Shelf

/-- What a function value answers of an integer, reading nothing. -/
def IntPred (g : Nat) (cb : Array Value) (p : Int → Bool) : Prop := ∀ (x : Int) (w : World), Calls Try.prog g (#[.int .i64 x] ++ cb) w fun e w' => e = .returned (.bool (p x)) ∧ w = w'
set_option maxHeartbeats 1000000 in
theorem idxInts_any (v : Value) (r : List Int) (g : Nat) (cb : Array Value) (p : Int → Bool) (w : World) (eg : ∀ args w, (callFunc g args).run Try.prog w = .ok (.enter g args) w) (hin : InRow w v r) (hp : IntPred g cb p) :
    Calls Try.prog 34 #[v, .func (.func g) #[] cb] w (IdxRes (r.any p) w) := by
  have HP := hide hp
  clear hp
  obtain ⟨a, c, rfl, hm, hp⟩ := hin
  unfold maxLen at hm
  by_cases h0 : r.length = 0
  · have hr : r = [] := List.eq_nil_of_length_eq_zero h0
    subst hr
    clear hp h0 hm
    go_enter Try.func34, Try.ntmps34
    go_wp2
    go_loop [8] (fun i => i = .int .i64 0) (fun _ => 0)
    case atStart => rfl
    case round =>
      obtain rfl := hrel
      go_wp2
      go_ret
      exact ⟨-1, rfl, by omega, rfl, rfl⟩
  · obtain ⟨gr, o, rfl, hg, hc⟩ := hp.resolve_left h0
    have HC := hide hc
    obtain ⟨n, hn⟩ : ∃ n, n = r.length := ⟨_, rfl⟩
    have HN := hide hn
    rw [← hn] at hm ⊢
    clear hp hc h0 hn
    go_enter Try.func34, Try.ntmps34
    go_wp2
    go_loop [8] (fun i => ∃ k : Nat, k ≤ n ∧ i = .int .i64 k ∧ ∀ t, (h : t < r.length) → t < k → p r[t] = false) (fun i => n - (intOf i).toNat)
    case atStart => exact ⟨0, Nat.zero_le _, rfl, fun t _ h => absurd h (Nat.not_lt_zero _)⟩
    case round =>
      obtain ⟨k, hk, rfl, hall⟩ := hrel
      have HA := hide hall
      clear hall
      by_cases hlt : k < n
      · have hk' : k < r.length := by rw [← HN.out]; exact hlt
        have hx := HC.out k hk'
        have HNO := hide (fun h => any_yes (p := p) k hk' h)
        have HST : Hid (p r[k] = false → ∀ t, (h : t < r.length) → t < k + 1 → p r[t] = false) := hide fun h t h1 ht => by
          by_cases e : t = k
          · subst e; exact h
          · exact HA.out t h1 (by omega)
        obtain ⟨x, hxx⟩ : ∃ x, x = r[k] := ⟨_, rfl⟩
        rw [← hxx] at hx HNO HST
        clear hxx
        have HCALL := hide (fun w' => HP.out x w')
        obtain ⟨q, hq⟩ : ∃ q, q = p x := ⟨_, rfl⟩
        rw [← hq] at HCALL HNO HST
        clear hq
        cases q with
        | true =>
          have HF := hide (HNO.out rfl)
          clear HNO HST
          go_wp2_with (go_at_fn g; refine (HCALL.out _).mono ?_; rintro e w9 ⟨rfl, rfl⟩)
          go_ret
          exact ⟨k, rfl, by omega, by rw [HF.out]; simp, rfl⟩
        | false =>
          have HS2 := hide (HST.out rfl)
          clear HNO HST
          go_wp2_with (go_at_fn g; refine (HCALL.out _).mono ?_; rintro e w9 ⟨rfl, rfl⟩)
          go_round
          case rel => exact ⟨k + 1, by omega, by go_num, HS2.out⟩
          case measure => simp [intOf]; omega
      · have HY := hide (any_no (p := p) fun t h => HA.out t h (by have := HN.out; omega))
        go_wp2
        go_ret
        exact ⟨-1, rfl, by omega, by rw [HY.out]; rfl, rfl⟩
theorem containsInts_any (v : Value) (r : List Int) (g : Nat) (cb : Array Value) (p : Int → Bool) (w : World) (eg : ∀ args w, (callFunc g args).run Try.prog w = .ok (.enter g args) w) (hin : InRow w v r) (hp : IntPred g cb p) :
    Calls Try.prog 20 #[v, .func (.func g) #[] cb] w fun e w' => e = .returned (.bool (r.any p)) ∧ w = w' := by
  have HI := hide (idxInts_any v r g cb p w eg hin hp)
  clear hin hp eg
  go_enter Try.func20, Try.ntmps20
  go_wp2_with fail
  refine HI.out.mono ?_
  rintro e w1 ⟨i, rfl, hi, hb, rfl⟩
  have HB := hide hb
  clear hb HI
  by_cases h : 0 ≤ i
  · go_wp2
    go_ret
    exact ⟨ret_bool (by rw [HB.out]; simp [h]), rfl⟩
  · go_wp2
    go_ret
    exact ⟨ret_bool (by rw [HB.out]), rfl⟩
theorem any_not {α : Type} (p : α → Bool) (r : List α) : (!r.any fun x => !p x) = r.all p := by
  induction r with
  | nil => rfl
  | cons x r ih => rw [List.any_cons, List.all_cons, ← ih]; cases p x <;> simp
def hasB (l : List Int) (y : Nat) : Bool := l.any fun x => x == (y : Int)
theorem hasB_at {l : List Int} {y : Nat} (i : Nat) (h : i < l.length) (e : l[i] = y) : hasB l y = true := List.any_eq_true.2 ⟨_, List.getElem_mem h, by simp [e]⟩
theorem hasB_no {l : List Int} {y : Nat} (h : ∀ i, (hi : i < l.length) → l[i] ≠ y) : hasB l y = false := by
  unfold hasB
  rw [List.any_eq_false]
  intro x hx
  obtain ⟨i, hi, rfl⟩ := List.getElem_of_mem hx
  simpa using h i hi

set_option maxHeartbeats 1000000 in
theorem indexInt_any (v : Value) (l : List Int) (y : Nat) (w : World) (hin : InRow w v l) :
    Calls Try.prog 23 #[v, .int .i64 y] w (IdxRes (hasB l y) w) := by
  obtain ⟨a, c, rfl, hm, hp⟩ := hin
  unfold maxLen at hm
  by_cases h0 : l.length = 0
  · have hr : l = [] := List.eq_nil_of_length_eq_zero h0
    subst hr
    clear hp h0 hm
    go_enter Try.func23, Try.ntmps23
    go_wp2
    go_loop [8] (fun i => i = .int .i64 0) (fun _ => 0)
    case atStart => rfl
    case round =>
      obtain rfl := hrel
      go_wp2
      go_ret
      exact ⟨-1, rfl, by omega, rfl, rfl⟩
  · obtain ⟨gr, o, rfl, hg, hc⟩ := hp.resolve_left h0
    have HC := hide hc
    obtain ⟨n, hn⟩ : ∃ n, n = l.length := ⟨_, rfl⟩
    have HN := hide hn
    rw [← hn] at hm ⊢
    clear hp hc h0 hn
    go_enter Try.func23, Try.ntmps23
    go_wp2
    go_loop [8] (fun i => ∃ k : Nat, k ≤ n ∧ i = .int .i64 k ∧ ∀ t, (h : t < l.length) → t < k → l[t] ≠ y) (fun i => n - (intOf i).toNat)
    case atStart => exact ⟨0, Nat.zero_le _, rfl, fun t _ h => absurd h (Nat.not_lt_zero _)⟩
    case round =>
      obtain ⟨k, hk, rfl, hall⟩ := hrel
      have HA := hide hall
      clear hall
      by_cases hlt : k < n
      · have hk' : k < l.length := by rw [← HN.out]; exact hlt
        have hx := HC.out k hk'
        have HYES := hide (fun h => hasB_at (y := y) k hk' h)
        have HST : Hid (l[k] ≠ y → ∀ t, (h : t < l.length) → t < k + 1 → l[t] ≠ y) := hide fun h t h1 ht => by
          by_cases e : t = k
          · subst e; exact h
          · exact HA.out t h1 (by omega)
        obtain ⟨x, hxx⟩ : ∃ x, x = l[k] := ⟨_, rfl⟩
        rw [← hxx] at hx HYES HST
        clear hxx
        by_cases e : x = y
        · have HF := hide (HYES.out e)
          subst e
          clear HYES HST
          go_wp2
          go_ret
          exact ⟨k, rfl, by omega, by rw [HF.out]; simp, rfl⟩
        · have HS2 := hide (HST.out e)
          have hb : (y == x) = false := by simp; omega
          have hb2 : (x == y) = false := by simp [e]
          clear HYES HST e
          go_wp2
          go_round
          case rel => exact ⟨k + 1, by omega, by go_num, HS2.out⟩
          case measure => simp [intOf]; omega
      · have HY := hide (hasB_no fun t h => HA.out t h (by have := HN.out; omega))
        go_wp2
        go_ret
        exact ⟨-1, rfl, by omega, by rw [HY.out]; rfl, rfl⟩
theorem containsInt_any (v : Value) (l : List Int) (y : Nat) (w : World) (hin : InRow w v l) :
    Calls Try.prog 25 #[v, .int .i64 y] w fun e w' => e = .returned (.bool (hasB l y)) ∧ w = w' := by
  have HI := hide (indexInt_any v l y w hin)
  clear hin
  go_enter Try.func25, Try.ntmps25
  go_wp2_with fail
  refine HI.out.mono ?_
  rintro e w1 ⟨i, rfl, hi, hb, rfl⟩
  have HB := hide hb
  clear hb HI
  by_cases h : 0 ≤ i
  · go_wp2
    go_ret
    exact ⟨ret_bool (by rw [HB.out]; simp [h]), rfl⟩
  · go_wp2
    go_ret
    exact ⟨ret_bool (by rw [HB.out]), rfl⟩
end Go.Proofs.Ytpinkjgpdapgeaa
/-
  slices.Clone at integers; sumsWithout of the program; slices with their capacity.
-/
namespace Go.Proofs.Ytpinkjgpdapgeaa
open Go.RowKit

theorem clone_any (v : Value) (r : List Int) (w : World) (hin : InRow w v r) (hn : r.length ≤ 2000000) :
    Calls Try.prog 44 #[v] w (IntsRes r w) := by
  obtain ⟨a, c, rfl, hm, hp⟩ := hin
  by_cases h0 : r.length = 0
  · obtain rfl : r = [] := List.eq_nil_of_length_eq_zero h0
    cases a with
    | none =>
      refine (Try.slices_Clone_int_nil 0 c w).mono ?_
      rintro e w' ⟨rfl, rfl⟩
      exact intsRes_nil (Below.refl _ _)
    | some x =>
      refine (Try.slices_Clone_int_zero x c w).mono ?_
      rintro e w' ⟨v', rfl, ho, -, hb⟩
      exact ⟨v', rfl, ho, hb⟩
  · obtain ⟨g, o, rfl, -, hc⟩ := hp.resolve_left h0
    refine (Try.slices_Clone_int g o r.length c r w (Nat.le_refl _) (by omega) (fun j hj => ?_)).mono ?_
    · rw [hc j hj, List.getD_eq_getElem?_getD, List.getElem?_eq_getElem hj]; rfl
    rintro e w' ⟨v', rfl, ho, -, hb⟩
    rw [List.take_length] at ho
    exact ⟨v', rfl, ho, hb⟩
/-- What has been left behind k cells of the row. -/
def subF (c row : List Int) (k x : Nat) : Int := c.getD x 0 - if x < k then row.getD x 0 else 0
theorem subF_zero (c row : List Int) : tabL c.length (subF c row 0) = c := by
  rw [show tabL c.length (subF c row 0) = tabL c.length (fun x => c.getD x 0) from tabL_congr fun i _ => by rw [subF, if_neg (Nat.not_lt_zero _)]; simp]
  exact tabL_self c
theorem subF_all (c row : List Int) (k : Nat) (h : c.length ≤ k) : tabL c.length (subF c row k) = subL c row :=
  tabL_congr fun i hi => by rw [subF, if_pos (by omega)]
/-- The slice reads as r, and its capacity is no less than its length. -/
def RowC (w : World) (v : Value) (r : List Int) : Prop := InRow w v r ∧ ∃ a c, v = .slice a r.length c ∧ r.length ≤ c ∧ c ≤ maxLen
theorem rowC_below {w w' : World} {v : Value} {r : List Int} (h : RowC w v r) (hb : Below w.heap.size w w') : RowC w' v r := ⟨inRow_below h.1 hb, h.2⟩
theorem rowC_own {w : World} {base : Nat} {v : Value} {r : List Int} (h : w.ownsRow base 3 1 v r.length (ints r)) : RowC w v r := by
  refine ⟨inRow_own h, ?_⟩
  rcases h.2 with ⟨rfl, h0⟩ | ⟨g, cap, cur, rfl, hbg, hg, hc, hm, _⟩
  · exact ⟨none, 0, by rw [h0], by omega, Nat.zero_le _⟩
  · exact ⟨_, _, rfl, hc, hm⟩
theorem rowC_tail {w : World} {g o n c : Nat} {x : Int} {r : List Int} (h : RowC w (.slice (some ⟨g, o, none⟩) n c) (x :: r)) : RowC w (.slice (if c = 1 then some ⟨g, o, none⟩ else some ⟨g, o + 1, none⟩) (n - 1) (c - 1)) r := by
  obtain ⟨⟨a, c', he, hm, hp⟩, a2, c2, he2, hl, hmx⟩ := h
  cases he; cases he2
  simp only [List.length_cons, Nat.add_sub_cancel] at hl hm ⊢
  refine ⟨⟨_, _, rfl, by omega, ?_⟩, _, _, rfl, by omega, by omega⟩
  obtain ⟨g', o', he', hg, hc⟩ := hp.resolve_left (by simp)
  cases he'
  by_cases h0 : r.length = 0
  · exact .inl h0
  · rw [if_neg (by omega)]
    refine .inr ⟨g, o + 1, rfl, hg, fun i hi => ?_⟩
    have := hc (i + 1) (by simp; omega)
    rw [List.getElem_cons_succ] at this
    rw [← this, show o + (i + 1) = o + 1 + i by omega]
end Go.Proofs.Ytpinkjgpdapgeaa
/-
  IntervalOf, IsHConvex, IsVConvex and IsConvex of the program.
-/
namespace Go.Proofs.Ytpinkjgpdapgeaa
open Go.RowKit Go.Shelf

/-- The slice of slices v reads as m; no slice is longer than its capacity. -/
def MatC (w : World) (v : Value) (m : List (List Int)) : Prop :=
  ∃ a c, v = .slice a m.length c ∧ m.length ≤ maxLen ∧ (m.length = 0 ∨ ∃ g o, a = some ⟨g, o, none⟩ ∧ g < w.heap.size ∧ ∀ i, (h : i < m.length) → ∃ u, w.cell? ⟨g, o + i, none⟩ = some u ∧ RowC w u m[i])
theorem matC_in {w : World} {v : Value} {m : List (List Int)} (h : MatC w v m) : InMat w v m := by
  obtain ⟨a, c, rfl, hm, hp⟩ := h
  refine ⟨a, c, rfl, hm, hp.imp id ?_⟩
  rintro ⟨g, o, ha, hg, hc⟩
  exact ⟨g, o, ha, hg, fun i hi => by obtain ⟨u, hu, hr⟩ := hc i hi; exact ⟨u, hu, hr.1⟩⟩
theorem matC_below {w w' : World} {v : Value} {m : List (List Int)} (h : MatC w v m) (hb : Below w.heap.size w w') : MatC w' v m := by
  obtain ⟨a, c, hv, hm, hp⟩ := h
  refine ⟨a, c, hv, hm, ?_⟩
  rcases hp with h0 | ⟨g, o, ha, hg, hc⟩
  · exact .inl h0
  · refine .inr ⟨g, o, ha, Nat.lt_of_lt_of_le hg hb.size, fun i hi => ?_⟩
    obtain ⟨u, hu, hr⟩ := hc i hi
    exact ⟨u, below_cell hb hg hu, rowC_below hr hb⟩
theorem matC_own {w : World} {lo hi : Nat} {v : Value} {m : List (List Int)} (h : OwnMat w lo hi v m) : MatC w v m := by
  obtain ⟨vs, ho, -, hr, -⟩ := h
  rcases ho.2 with ⟨rfl, h0⟩ | ⟨g, cap, cur, rfl, hbg, hg, hc, hm, _⟩
  · exact ⟨none, 0, by rw [h0], by omega, .inl h0⟩
  · refine ⟨_, _, rfl, by omega, .inr ⟨g, 0, rfl, (Array.getElem?_eq_some_iff.1 hg).1, fun i hi => ⟨vs.getD i undef, ?_, rowC_own (hr i hi).1⟩⟩⟩
    rw [Nat.zero_add]; exact cell_held ho hi
theorem matC_nil (w : World) : MatC w (.slice none 0 0) [] := ⟨none, 0, rfl, Nat.zero_le _, .inl rfl⟩

/-- What the function value answers of a row, in whatever world has grown out of W. -/
def RowPredC (g : Nat) (cb : Array Value) (ok : List Int → Prop) (p : List Int → Bool) (W : World) : Prop :=
  ∀ (r : List Int) (u : Value) (w : World), ok r → Below W.heap.size W w → RowC w u r → Calls Try.prog g (#[u] ++ cb) w fun e w' => e = .returned (.bool (p r)) ∧ Below w.heap.size w w'
set_option maxHeartbeats 1000000 in
theorem idxRowsC_any (v : Value) (m : List (List Int)) (g : Nat) (cb : Array Value) (ok : List Int → Prop) (p : List Int → Bool) (w : World) (eg : ∀ args w, (callFunc g args).run Try.prog w = .ok (.enter g args) w) (hin : MatC w v m) (hok : ∀ r ∈ m, ok r) (hp : RowPredC g cb ok p w) :
    Calls Try.prog 37 #[v, .func (.func g) #[] cb] w fun e w' => e = .returned (.int .i64 (idxP p m)) ∧ Below w.heap.size w w' := by
  obtain ⟨a, c, rfl, hm, hpl⟩ := hin
  unfold maxLen at hm
  have HP := hide hp; have HOK := hide hok
  clear hp hok
  by_cases h0 : m.length = 0
  · have hr : m = [] := List.eq_nil_of_length_eq_zero h0
    subst hr
    clear hpl h0 hm
    go_enter Try.func37, Try.ntmps37
    go_wp2
    go_loop [8] (fun i => i = .int .i64 0) (fun _ => 0)
    case atStart => rfl
    case round =>
      obtain rfl := hrel
      go_wp2
      go_ret
      exact ⟨rfl, Below.refl _ _⟩
  · obtain ⟨b, o, rfl, hg, hc⟩ := hpl.resolve_left h0
    have HC := hide hc; have HG := hide hg
    obtain ⟨n, hn⟩ : ∃ n, n = m.length := ⟨_, rfl⟩
    have HN := hide hn
    rw [← hn] at hm ⊢
    clear hpl hc h0 hn hg
    go_enter Try.func37, Try.ntmps37
    go_wp2
    go_loopw [8] (fun i w' => ∃ k : Nat, k ≤ n ∧ i = .int .i64 k ∧ (∀ t, (h : t < m.length) → t < k → p m[t] = false) ∧ Below w.heap.size w w') (fun i _ => n - (intOf i).toNat)
    case atStart => exact ⟨0, Nat.zero_le _, rfl, fun t _ h => absurd h (Nat.not_lt_zero _), Below.refl _ _⟩
    case round =>
      obtain ⟨k, hk, rfl, hall, hb⟩ := hrel
      have HA := hide hall; have HB := hide hb
      clear hall hb
      by_cases hlt : k < n
      · have hk' : k < m.length := by rw [← HN.out]; exact hlt
        obtain ⟨u, hu, hru⟩ := HC.out k hk'
        have hx := below_cell HB.out HG.out hu
        have HCALL := hide (HP.out m[k] u wr (HOK.out _ (List.getElem_mem hk')) HB.out (rowC_below hru HB.out))
        have HHIT := hide (fun h => idxP_hit (p := p) hk' h HA.out)
        have HST : Hid (p m[k] = false → ∀ t, (h : t < m.length) → t < k + 1 → p m[t] = false) := hide fun h t h1 ht => by
          by_cases e : t = k
          · subst e; exact h
          · exact HA.out t h1 (by omega)
        clear hu hru
        obtain ⟨q, hq⟩ : ∃ q, q = p m[k] := ⟨_, rfl⟩
        rw [← hq] at HCALL HHIT HST
        clear hq
        cases q with
        | true =>
          have HF := hide (HHIT.out rfl); clear HHIT HST
          go_wp2_with (go_at_fn g; refine HCALL.out.mono ?_; rintro e w9 ⟨rfl, hb9⟩; have HB9 := hide (HB.out.trans (hb9.mono HB.out.size)); clear hb9)
          go_ret
          exact ⟨by rw [HF.out]; rfl, HB9.out⟩
        | false =>
          have HS2 := hide (HST.out rfl); clear HST HHIT
          go_wp2_with (go_at_fn g; refine HCALL.out.mono ?_; rintro e w9 ⟨rfl, hb9⟩; have HB9 := hide (HB.out.trans (hb9.mono HB.out.size)); clear hb9)
          go_roundw
          case rel => exact ⟨k + 1, by omega, by go_num, HS2.out, HB9.out⟩
          case measure => simp [intOf]; omega
      · have HY := hide (idxP_miss (p := p) fun t h => HA.out t h (by have := HN.out; omega))
        go_wp2
        go_ret
        exact ⟨by rw [HY.out]; rfl, HB.out⟩
set_option maxHeartbeats 400000 in
theorem containsRowsC_any (v : Value) (m : List (List Int)) (g : Nat) (cb : Array Value) (ok : List Int → Prop) (p : List Int → Bool) (w : World) (eg : ∀ args w, (callFunc g args).run Try.prog w = .ok (.enter g args) w) (hin : MatC w v m) (hok : ∀ r ∈ m, ok r) (hp : RowPredC g cb ok p w) :
    Calls Try.prog 29 #[v, .func (.func g) #[] cb] w fun e w' => e = .returned (.bool (m.any p)) ∧ Below w.heap.size w w' := by
  have HI := hide (idxRowsC_any v m g cb ok p w eg hin hok hp)
  have HY := hide (idxP_any p m)
  have hlo : -1 ≤ idxP p m ∧ idxP p m ≤ maxLen := by
    obtain ⟨a, c, -, hm, -⟩ := hin
    unfold idxP
    by_cases h : m.findIdx p < m.length
    · rw [if_pos h]; omega
    · rw [if_neg h]; exact ⟨by omega, by unfold maxLen; omega⟩
  unfold maxLen at hlo
  obtain ⟨q, hq⟩ : ∃ q, q = idxP p m := ⟨_, rfl⟩
  rw [← hq] at HI HY hlo
  rw [← HY.out]
  obtain ⟨hlo, hhi⟩ := hlo
  clear hin hok hp hq eg HY
  go_enter Try.func29, Try.ntmps29
  go_wp2_with (go_at_call 37; refine HI.out.mono ?_; rintro e w9 ⟨rfl, hb9⟩; have HB9 := hide hb9; clear hb9)
  go_ret
  exact ⟨rfl, HB9.out⟩

theorem iv1_any (x : Int) (w : World) :
    Calls Try.prog 21 #[.int .i64 x] w fun e w' => e = .returned (.bool (!cellOk x)) ∧ w = w' := by
  have HC := hide fun w' => colorOk_any x w'
  obtain ⟨b, hb⟩ : ∃ b, b = cellOk x := ⟨_, rfl⟩
  rw [← hb] at HC ⊢
  clear hb
  go_enter Try.func21, Try.ntmps21
  go_wp2_with (go_at_call 22; refine (HC.out _).mono ?_; rintro e w' ⟨rfl, rfl⟩)
  go_ret
  exact ⟨rfl, rfl⟩

def Idx1 (r : List Int) (w : World) (e : Ending) (w' : World) : Prop :=
  ∃ i : Int, e = .returned (.int .i64 i) ∧ ((i = -1 ∧ ∀ t, (h : t < r.length) → r[t] ≠ 1) ∨ ∃ f : Nat, i = f ∧ Fst r f) ∧ w = w'
set_option maxHeartbeats 1000000 in
theorem index1_any (v : Value) (l : List Int) (w : World) (hin : InRow w v l) :
    Calls Try.prog 23 #[v, .int .i64 1] w (Idx1 l w) := by
  obtain ⟨a, c, rfl, hm, hp⟩ := hin
  unfold maxLen at hm
  by_cases h0 : l.length = 0
  · have hr : l = [] := List.eq_nil_of_length_eq_zero h0
    subst hr
    clear hp h0 hm
    go_enter Try.func23, Try.ntmps23
    go_wp2
    go_loop [8] (fun i => i = .int .i64 0) (fun _ => 0)
    case atStart => rfl
    case round =>
      obtain rfl := hrel
      go_wp2
      go_ret
      exact ⟨-1, rfl, .inl ⟨rfl, fun t h => absurd h (Nat.not_lt_zero _)⟩, rfl⟩
  · obtain ⟨gr, o, rfl, hg, hc⟩ := hp.resolve_left h0
    have HC := hide hc
    obtain ⟨n, hn⟩ : ∃ n, n = l.length := ⟨_, rfl⟩
    have HN := hide hn
    rw [← hn] at hm ⊢
    clear hp hc h0 hn
    go_enter Try.func23, Try.ntmps23
    go_wp2
    go_loop [8] (fun i => ∃ k : Nat, k ≤ n ∧ i = .int .i64 k ∧ ∀ t, (h : t < l.length) → t < k → l[t] ≠ 1) (fun i => n - (intOf i).toNat)
    case atStart => exact ⟨0, Nat.zero_le _, rfl, fun t _ h => absurd h (Nat.not_lt_zero _)⟩
    case round =>
      obtain ⟨k, hk, rfl, hall⟩ := hrel
      have HA := hide hall
      clear hall
      by_cases hlt : k < n
      · have hk' : k < l.length := by rw [← HN.out]; exact hlt
        have hx := HC.out k hk'
        have HF : Hid (l[k] = 1 → Fst l k) := hide fun h => ⟨hk', by rw [getD_at hk']; exact h, fun t ht => by rw [getD_at (by omega)]; exact HA.out t (by omega) ht⟩
        have HST : Hid (l[k] ≠ 1 → ∀ t, (h : t < l.length) → t < k + 1 → l[t] ≠ 1) := hide fun h t h1 ht => by
          by_cases e : t = k
          · subst e; exact h
          · exact HA.out t h1 (by omega)
        obtain ⟨x, hxx⟩ : ∃ x, x = l[k] := ⟨_, rfl⟩
        rw [← hxx] at hx HF HST
        clear hxx
        by_cases e : x = 1
        · have HF2 := hide (HF.out e)
          subst e
          clear HF HST
          go_wp2
          go_ret
          exact ⟨k, rfl, .inr ⟨k, rfl, HF2.out⟩, rfl⟩
        · have HS2 := hide (HST.out e)
          have hb : ((1 : Int) == x) = false := by simp; omega
          have hb2 : (x == 1) = false := by simp [e]
          clear HF HST e
          go_wp2
          go_round
          case rel => exact ⟨k + 1, by omega, by go_num, HS2.out⟩
          case measure => simp [intOf]; omega
      · have HY := hide (fun t h => HA.out t h (by have := HN.out; omega))
        go_wp2
        go_ret
        exact ⟨-1, rfl, .inl ⟨rfl, HY.out⟩, rfl⟩

theorem zo_take {r : List Int} (h : Zo r) (k : Nat) : 0 ≤ (r.take k).sum ∧ (r.take k).sum ≤ k := by
  have h1 := zo_sum (l := r.take k) (zo_sub h fun x hx => List.mem_of_mem_take hx)
  have h2 : (r.take k).length ≤ k := by rw [List.length_take]; omega
  omega
set_option maxHeartbeats 400000 in
theorem total01_any (v : Value) (r : List Int) (w : World) (hin : InRow w v r) (hs : Zo r) :
    Calls Try.prog 24 #[v] w fun e w' => e = .returned (.int .i64 r.sum) ∧ w = w' := by
  obtain ⟨a, c, rfl, hm, hp⟩ := hin
  unfold maxLen at hm
  have HS := hide hs
  by_cases h0 : r.length = 0
  · have hr : r = [] := List.eq_nil_of_length_eq_zero h0
    subst hr
    clear hp h0 hm hs
    go_enter Try.func24, Try.ntmps24
    go_wp2
    go_loop [3, 8] (fun s i => s = .int .i64 0 ∧ i = .int .i64 0) (fun _ _ => 0)
    case atStart => exact ⟨rfl, rfl⟩
    case round =>
      obtain ⟨rfl, rfl⟩ := hrel
      go_wp2
      go_ret
      exact ⟨rfl, rfl⟩
  · obtain ⟨g, o, rfl, hg, hc⟩ := hp.resolve_left h0
    have HC := hide hc
    obtain ⟨n, hn⟩ : ∃ n, n = r.length := ⟨_, rfl⟩
    have HN := hide hn
    rw [← hn] at hm ⊢
    clear hp hc h0 hn hs
    go_enter Try.func24, Try.ntmps24
    go_wp2
    go_loop [3, 8] (fun s i => ∃ k : Nat, k ≤ n ∧ i = .int .i64 k ∧ s = .int .i64 (r.take k).sum) (fun _ i => n - (intOf i).toNat)
    case atStart => exact ⟨0, Nat.zero_le _, rfl, rfl⟩
    case round =>
      obtain ⟨k, hk, rfl, rfl⟩ := hrel
      obtain ⟨b1, b2⟩ := zo_take HS.out k
      by_cases hlt : k < n
      · have hk' : k < r.length := by rw [← HN.out]; exact hlt
        have hx := HC.out k hk'
        have HST := hide (sum_snoc r k hk')
        have b3 : 0 ≤ r[k] ∧ r[k] ≤ 1 := by rcases HS.out _ (List.getElem_mem hk') with e | e <;> omega
        obtain ⟨b3, b4⟩ := b3
        obtain ⟨x, hxx⟩ : ∃ x, x = r[k] := ⟨_, rfl⟩
        obtain ⟨S, hSS⟩ : ∃ S, S = (r.take k).sum := ⟨_, rfl⟩
        rw [← hxx] at hx HST b3 b4
        rw [← hSS] at HST b1 b2 ⊢
        clear hxx hSS
        go_wp2
        go_round
        case rel => exact ⟨k + 1, by omega, by go_num, by rw [HST.out]⟩
        case measure => simp [intOf]; omega
      · obtain rfl : k = n := by omega
        have HE : Hid ((r.take k).sum = r.sum) := hide (by rw [HN.out, List.take_length])
        rw [HE.out] at b1 b2 ⊢
        go_wp2
        go_ret
        exact ⟨rfl, rfl⟩

/-- A part of a row that reads. -/
theorem inRow_mid {w : World} {g o n c f s k : Nat} {r : List Int} (h : InRow w (.slice (some ⟨g, o, none⟩) n c) r) (hfs : f + s ≤ r.length) (hs : s ≠ 0) : InRow w (.slice (some ⟨g, o + f, none⟩) s k) (midL r f s) := by
  obtain ⟨a, c', e, hm, hp⟩ := h
  cases e
  have hl := mid_len hfs
  obtain ⟨g', o', e, hg, hc⟩ := hp.resolve_left (by omega)
  cases e
  refine ⟨some ⟨g, o + f, none⟩, k, by rw [hl], by rw [hl]; omega, .inr ⟨g, o + f, rfl, hg, fun i hi => ?_⟩⟩
  rw [mid_at hi (by omega), ← hc (f + i) (by omega), Nat.add_assoc]

def IvR (r : List Int) (w : World) (e : Ending) (w' : World) : Prop := e = .returned (.tuple #[.int .i64 (ivR r).1, .int .i64 (ivR r).2.1, .bool (ivR r).2.2]) ∧ w = w'
set_option maxHeartbeats 1000000 in
theorem implInterval_same (v : Value) (r : List Int) (w : World) (hin : RowC w v r) :
    Calls Try.prog 9 #[v] w (IvR r w) := by
  have HI := hide hin.1
  obtain ⟨_, a, c, rfl, hlc, hcm⟩ := hin
  unfold maxLen at hcm
  have HC := hide (containsInts_any _ r 21 #[] (fun x => !cellOk x) w (enters_of Try.func21 (by kernel_rfl) rfl) HI.out (fun x w' => iv1_any x w'))
  by_cases hb : r.any (fun x => !cellOk x) = true
  · have HF := hide (zo_bad hb)
    rw [hb] at HC
    obtain ⟨n, hn⟩ : ∃ n, n = r.length := ⟨_, rfl⟩
    rw [← hn] at HC hlc ⊢
    clear hn hb HI
    go_enter Try.func9, Try.ntmps9
    go_wp2_with (go_at_call 20; refine HC.out.mono ?_; rintro e w' ⟨rfl, rfl⟩)
    go_ret3
    exact ⟨by rw [HF.out]; rfl, rfl⟩
  · have hb' : r.any (fun x => !cellOk x) = false := by simpa using hb
    have hz := zo_of hb'
    rw [hb'] at HC
    have HX := hide (index1_any _ r w HI.out)
    have HT := hide (total01_any _ r w HI.out hz)
    obtain ⟨hs0, hs1⟩ := zo_sum hz
    by_cases h0 : r.sum = 0
    · have HF := hide (iv_none hz h0)
      rw [h0] at HT
      obtain ⟨n, hn⟩ : ∃ n, n = r.length := ⟨_, rfl⟩
      rw [← hn] at HC HX HT hlc ⊢
      clear hn hb hb' HI hz h0 hs0 hs1
      go_enter Try.func9, Try.ntmps9
      go_wp2_with (first | (go_at_call 20; refine HC.out.mono ?_; rintro e w' ⟨rfl, rfl⟩) | (go_at_call 23; refine HX.out.mono ?_; rintro e w' ⟨i, rfl, -, rfl⟩) | (go_at_call 24; refine HT.out.mono ?_; rintro e w' ⟨rfl, rfl⟩))
      go_ret3
      exact ⟨by rw [HF.out]; rfl, rfl⟩
    · obtain ⟨f, hf⟩ : ∃ f, Fst r f := by
        refine Classical.byContradiction fun hno => h0 (sum_nones fun x hx => ?_)
        refine (hz x hx).resolve_right fun e1 => hno ?_
        have hlt : r.findIdx (· == 1) < r.length := List.findIdx_lt_length_of_exists ⟨x, hx, by simp [e1]⟩
        refine ⟨r.findIdx (· == 1), hlt, ?_, fun t ht => ?_⟩
        · rw [getD_at hlt]
          have := List.findIdx_getElem (w := hlt)
          simpa using this
        · rw [getD_at (by omega)]
          have := List.not_of_lt_findIdx ht
          simpa using this
      have HX2 : Hid (Calls Try.prog 23 #[.slice a r.length c, .int .i64 1] w fun e w' => e = .returned (.int .i64 f) ∧ w = w') := hide <| HX.out.mono fun e w' h => by
        obtain ⟨i, rfl, hi, rfl⟩ := h
        rcases hi with ⟨-, hn⟩ | ⟨f', rfl, hf'⟩
        · have := hf.one
          rw [getD_at hf.lt] at this
          exact absurd this (hn f hf.lt)
        · have e : f' = f := by
            have h1 := hf.no f'; have h2 := hf'.no f
            by_cases c1 : f' < f
            · exact absurd hf'.one (h1 c1)
            · by_cases c2 : f < f'
              · exact absurd hf.one (h2 c2)
              · omega
          rw [e]; exact ⟨rfl, rfl⟩
      obtain ⟨h1, h2, h3⟩ := fst_fits hz hf
      obtain ⟨s, hs⟩ : ∃ s : Nat, r.sum = s := ⟨r.sum.toNat, by omega⟩
      have hlt := hf.lt
      obtain ⟨g, o, rfl⟩ : ∃ g o, a = some ⟨g, o, none⟩ := by
        obtain ⟨a', c', e, -, hp⟩ := HI.out
        cases e
        obtain ⟨g, o, e, -⟩ := hp.resolve_left (by omega)
        exact ⟨g, o, e⟩
      have HM := hide (fun k => containsInt_any (.slice (some ⟨g, o + f, none⟩) s k) (midL r f s) 0 w (inRow_mid HI.out (by omega) (by omega)))
      have HYES : Hid (hasB (midL r f s) 0 = false → ivR r = ((f : Int), (s : Int), true)) := hide fun h => iv_run hz hf hs fun x hx e => by
        unfold hasB at h
        rw [List.any_eq_false] at h
        have := h x hx
        simp [e] at this
      have HNO : Hid (hasB (midL r f s) 0 = true → ivR r = (0, 0, false)) := hide fun h => by
        unfold hasB at h
        rw [List.any_eq_true] at h
        obtain ⟨x, hx, e⟩ := h
        exact iv_gap hz hf hs hx (by simpa using e)
      rw [hs] at HT h1 h2 hs1
      obtain ⟨n, hn⟩ : ∃ n, n = r.length := ⟨_, rfl⟩
      rw [← hn] at HC HX2 HT hlc h2 hlt hs1 ⊢
      obtain ⟨b, hbb⟩ : ∃ b, b = hasB (midL r f s) 0 := ⟨_, rfl⟩
      rw [← hbb] at HM HYES HNO
      have hs0' : ((s : Int) == 0) = false := by simp; omega
      have hfs : f + s ≤ c := by omega
      have hfc : f < c := by omega
      have hs1' : 1 ≤ s := by omega
      clear hn hb hb' HI hz h0 hs0 hs1 h3 hs hf HX hbb h1
      cases b with
      | true =>
        have HF := hide (HNO.out rfl)
        clear HYES HNO
        go_enter Try.func9, Try.ntmps9
        go_wp2_with (first | (go_at_call 20; refine HC.out.mono ?_; rintro e w' ⟨rfl, rfl⟩) | (go_at_call 23; refine HX2.out.mono ?_; rintro e w' ⟨rfl, rfl⟩) | (go_at_call 24; refine HT.out.mono ?_; rintro e w' ⟨rfl, rfl⟩) | (go_at_call 25; refine (HM.out _).mono ?_; rintro e w' ⟨rfl, rfl⟩))
        go_ret3
        exact ⟨by rw [HF.out]; rfl, rfl⟩
      | false =>
        have HF := hide (HYES.out rfl)
        clear HYES HNO
        go_enter Try.func9, Try.ntmps9
        go_wp2_with (first | (go_at_call 20; refine HC.out.mono ?_; rintro e w' ⟨rfl, rfl⟩) | (go_at_call 23; refine HX2.out.mono ?_; rintro e w' ⟨rfl, rfl⟩) | (go_at_call 24; refine HT.out.mono ?_; rintro e w' ⟨rfl, rfl⟩) | (go_at_call 25; refine (HM.out _).mono ?_; rintro e w' ⟨rfl, rfl⟩))
        go_ret3
        exact ⟨by rw [HF.out]; rfl, rfl⟩

theorem isInterval_any (v : Value) (r : List Int) (w : World) (hin : RowC w v r) :
    Calls Try.prog 31 #[v] w fun e w' => e = .returned (.bool (ivR r).2.2) ∧ w = w' := by
  have HI := hide (implInterval_same v r w hin)
  obtain ⟨p, q, b, hb⟩ : ∃ p q b, ivR r = (p, q, b) := ⟨_, _, _, rfl⟩
  have HB := hide hb
  rw [hb]
  clear hin hb
  go_enter Try.func31, Try.ntmps31
  go_wp2_with (go_at_call 9; refine HI.out.mono ?_; unfold IvR; rw [HB.out]; rintro e w' ⟨rfl, rfl⟩)
  go_ret
  exact ⟨rfl, rfl⟩
theorem hconv1_any (v : Value) (r : List Int) (w : World) (hin : RowC w v r) :
    Calls Try.prog 30 #[v] w fun e w' => e = .returned (.bool (!(ivR r).2.2)) ∧ w = w' := by
  have HI := hide (isInterval_any v r w hin)
  obtain ⟨b, hb⟩ : ∃ b, b = (ivR r).2.2 := ⟨_, rfl⟩
  rw [← hb] at HI ⊢
  clear hin hb
  go_enter Try.func30, Try.ntmps30
  go_wp2_with (go_at_call 31; refine HI.out.mono ?_; rintro e w' ⟨rfl, rfl⟩)
  go_ret
  exact ⟨rfl, rfl⟩
set_option maxHeartbeats 400000 in
theorem implHConvex_any (v : Value) (m : List (List Int)) (w : World) (hin : MatC w v m) :
    Calls Try.prog 14 #[v] w fun e w' => e = .returned (.bool (hconvB m)) ∧ Below w.heap.size w w' := by
  have HO := hide (implImageOk_any v m w (matC_in hin))
  have HCN := hide (fun w' (h : Below w.heap.size w w') => containsRowsC_any v m 30 #[] (fun _ => True) (fun q => !(ivR q).2.2) w' (enters_of Try.func30 (by kernel_rfl) rfl) (matC_below hin h) (fun _ _ => trivial) (fun r u w2 _ h2 hu => (hconv1_any u r w2 hu).mono (by rintro e w3 ⟨h3, rfl⟩; exact ⟨h3, Below.refl _ _⟩)))
  have HM : Hid (hconvB m = (okB m && !m.any fun q => !(ivR q).2.2)) := hide (by rw [any_not]; rfl)
  rw [HM.out]
  obtain ⟨b, hb⟩ : ∃ b, b = m.any fun q => !(ivR q).2.2 := ⟨_, rfl⟩
  rw [← hb] at HCN ⊢
  obtain ⟨k, hk⟩ : ∃ k, k = okB m := ⟨_, rfl⟩
  rw [← hk] at HO ⊢
  clear hb hk hin
  cases k with
  | false =>
    go_enter Try.func14, Try.ntmps14
    go_wp2_with (go_at_call 28; refine HO.out.mono ?_; rintro e w1 ⟨rfl, rfl⟩)
    go_ret
    exact ⟨rfl, Below.refl _ _⟩
  | true =>
    go_enter Try.func14, Try.ntmps14
    go_wp2_with (first | (go_at_call 28; refine HO.out.mono ?_; rintro e w1 ⟨rfl, rfl⟩) | (go_at_call 29; refine (HCN.out _ (Below.refl _ _)).mono ?_; rintro e w2 ⟨rfl, b2⟩; have B2 := hide b2; clear b2))
    go_ret
    exact ⟨rfl, B2.out⟩
theorem implTranspose_any (v : Value) (m : List (List Int)) (w : World) (hin : InMat w v m) :
    Calls Try.prog 33 #[v] w (MatRes (trB m) w) := by
  cases h : okB m with
  | false =>
    have e : trB m = [] := by unfold trB; rw [if_neg (by rw [h]; decide)]
    rw [e]
    exact implTransposeOf_no v m w hin h
  | true =>
    obtain ⟨R, C, f, rfl, hI⟩ := ok_img h
    rw [trB_mk hI]
    exact implTransposeOf_yes v R C f w hin hI
set_option maxHeartbeats 400000 in
theorem implVConvex_any (v : Value) (m : List (List Int)) (w : World) (hin : InMat w v m) :
    Calls Try.prog 17 #[v] w fun e w' => e = .returned (.bool (hconvB (trB m))) ∧ Below w.heap.size w w' := by
  have HT := hide (implTranspose_any v m w hin)
  clear hin
  obtain ⟨t, ht⟩ : ∃ t, t = trB m := ⟨_, rfl⟩
  rw [← ht] at HT ⊢
  have HH := hide (fun u w' => implHConvex_any u t w')
  obtain ⟨b, hb⟩ : ∃ b, b = hconvB t := ⟨_, rfl⟩
  rw [← hb] at HH ⊢
  clear hb ht
  go_enter Try.func17, Try.ntmps17
  go_wp2_with fail
  refine HT.out.mono ?_
  rintro e w1 ⟨v1, rfl, o1, b1⟩
  have O1 := hide o1; have B1 := hide b1
  clear o1 b1
  go_wp2_with fail
  refine (HH.out _ _ (matC_own O1.out)).mono ?_
  rintro e w2 ⟨rfl, b2⟩
  have B2 := hide b2
  clear b2
  go_wp2
  go_ret
  exact ⟨rfl, B1.out.trans (B2.out.mono B1.out.size)⟩
set_option maxHeartbeats 400000 in
theorem implConvex_any (v : Value) (m : List (List Int)) (w : World) (hin : MatC w v m) :
    Calls Try.prog 19 #[v] w fun e w' => e = .returned (.bool (convB m)) ∧ Below w.heap.size w w' := by
  have HH := hide (implHConvex_any v m w hin)
  have HV := hide (fun w' (h : Below w.heap.size w w') => implVConvex_any v m w' (inMat_below (matC_in hin) h))
  have HM : Hid (convB m = (hconvB m && hconvB (trB m))) := hide rfl
  rw [HM.out]
  obtain ⟨b, hb⟩ : ∃ b, b = hconvB (trB m) := ⟨_, rfl⟩
  rw [← hb] at HV ⊢
  obtain ⟨k, hk⟩ : ∃ k, k = hconvB m := ⟨_, rfl⟩
  rw [← hk] at HH ⊢
  clear hb hk hin
  cases k with
  | false =>
    go_enter Try.func19, Try.ntmps19
    go_wp2_with (go_at_call 14; refine HH.out.mono ?_; rintro e w1 ⟨rfl, b1⟩; have B1 := hide b1; clear b1)
    go_ret
    exact ⟨rfl, B1.out⟩
  | true =>
    go_enter Try.func19, Try.ntmps19
    go_wp2_with (first | (go_at_call 14; refine HH.out.mono ?_; rintro e w1 ⟨rfl, b1⟩; have B1 := hide b1; clear b1) | (go_at_call 17; refine (HV.out _ B1.out).mono ?_; rintro e w2 ⟨rfl, b2⟩; have B2 := hide b2; clear b2))
    go_ret
    exact ⟨ret_bool (by simp), B1.out.trans (B2.out.mono B1.out.size)⟩
end Go.Proofs.Ytpinkjgpdapgeaa
/-
  The exact law on IntervalOf, walked.
-/
namespace Go.Proofs.Ytpinkjgpdapgeaa
open Go.RowKit
set_option linter.unusedVariables false

set_option maxRecDepth 100000 in
set_option maxHeartbeats 4000000 in
theorem lawIntervalOf_gen (a0 : Option Addr) (n0 c0 : Nat) (r0 : List Int) (w : World) (hin0 : InRow w (.slice a0 n0 c0) r0) (v_0 : Int) (v_1 : Int) (b_2 : Bool) 
    (hs : ∀ (v0 : Value) (w : World), RowC w v0 r0 → Calls Try.prog 7 #[v0] w (fun e w' => e = .returned (.tuple #[.int .i64 v_0, .int .i64 v_1, .bool b_2]) ∧ Below w.heap.size w w'))
    (hi : ∀ (v0 : Value) (w : World), RowC w v0 r0 → Calls Try.prog 9 #[v0] w (fun e w' => e = .returned (.tuple #[.int .i64 v_0, .int .i64 v_1, .bool b_2]) ∧ Below w.heap.size w w')) :
    Calls Try.prog 3 #[.slice a0 n0 c0] w fun e w' => e = .returned (.bool true) ∧ Below w.heap.size w w' := by
  have HI0 := hide hin0
  obtain ⟨a', c', he, hm0, -⟩ := hin0
  cases he
  unfold maxLen at hm0
  by_cases hr0 : 1048576 < r0.length
  · clear hs hi
    obtain ⟨R0, hR0⟩ : ∃ x, x = r0.length := ⟨_, rfl⟩
    rw [← hR0] at HI0 hm0 hr0 ⊢
    clear hR0
    go_enter Try.func3, Try.ntmps3
    go_wp2
    go_ret
    exact ⟨rfl, Below.refl _ _⟩
  · skip
    have HR0 : Hid (r0.length ≤ 2000000) := hide (by omega)
    have HS := hide (hs); have HM := hide (hi)
    clear hs hi
    have hbb2 : (b_2 != b_2) = false := by cases b_2 <;> rfl
    go_enter Try.func3, Try.ntmps3
    go_wp2_with fail
    refine (toIntS_any _ r0 _ HR0.out HI0.out).mono ?_
    rintro e w1 ⟨p0, rfl, ho, hb⟩
    have P0L := hide (fun k e => (ho).lt k e)
    have P0_1 := hide (ho)
    have HB1 := hide (hb)
    have s1 := hb.size
    clear ho hb
    go_wp2_with fail
    refine (HS.out p0 _ (rowC_own P0_1.out)).mono ?_
    rintro e w2 ⟨rfl, hb⟩
    have HB2 := hide (HB1.out.trans (hb.mono HB1.out.size))
    have s2 := hb.size
    clear hb
    go_wp2_with fail
    refine (toIntS_any _ r0 _ HR0.out (inRow_below HI0.out HB2.out)).mono ?_
    rintro e w3 ⟨x0, rfl, ho, hb⟩
    have X0L := hide (fun k e => (ho).lt k e)
    have X0_3 := hide (ho)
    have HB3 := hide (HB2.out.trans (hb.mono HB2.out.size))
    have s3 := hb.size
    clear ho hb
    go_wp2_with fail
    refine (HM.out x0 _ (rowC_own X0_3.out)).mono ?_
    rintro e w4 ⟨rfl, hb⟩
    have X0_4 := hide (own_below X0_3.out hb)
    have HB4 := hide (HB3.out.trans (hb.mono HB3.out.size))
    have s4 := hb.size
    clear hb
    go_wp2_with fail
    refine (toIntS_any _ r0 _ HR0.out (inRow_below HI0.out HB4.out)).mono ?_
    rintro e w5 ⟨z0, rfl, ho, hb⟩
    have X0_5 := hide (own_below X0_4.out hb)
    have Z0L := hide (fun k e => (ho).lt k e)
    have Z0_5 := hide (ho)
    have HB5 := hide (HB4.out.trans (hb.mono HB4.out.size))
    have s5 := hb.size
    clear ho hb
    go_wp2_with fail
    refine (eqIntS_same x0 z0 r0 _ (inRow_own X0_5.out) (inRow_own Z0_5.out)).mono ?_
    rintro e w6 ⟨rfl, hb⟩
    have X0_6 := hide (own_below X0_5.out hb)
    have HB6 := hide (HB5.out.trans (hb.mono HB5.out.size))
    have s6 := hb.size
    clear hb
    go_wp2
    go_ret
    exact ⟨rfl, HB6.out⟩

theorem lawIntervalOf_walk (a0 : Option Addr) (n0 c0 : Nat) (r0 : List Int) (w : World) (hin0 : InRow w (.slice a0 n0 c0) r0) :
    Calls Try.prog 3 #[.slice a0 n0 c0] w fun e w' => e = .returned (.bool true) ∧ Below w.heap.size w w' :=
  lawIntervalOf_gen a0 n0 c0 r0 w hin0 (ivR r0).1 (ivR r0).2.1 (ivR r0).2.2 (fun v0 w h0 => (specInterval_any v0 r0 w h0.1).mono (by rintro e w' ⟨h1, rfl⟩; exact ⟨h1, Below.refl _ _⟩)) (fun v0 w h0 => (implInterval_same v0 r0 w h0).mono (by rintro e w' ⟨h1, rfl⟩; exact ⟨h1, Below.refl _ _⟩))
end Go.Proofs.Ytpinkjgpdapgeaa
