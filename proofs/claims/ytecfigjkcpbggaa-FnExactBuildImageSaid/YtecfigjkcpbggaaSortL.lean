/-
  Lists of integers in descending order, and SortedDown of the model.
-/
import Derived.Test.YtecfigjkcpbggaaConj
namespace Go.Proofs.Ytecfigjkcpbggaa
open Go.RowKit

def Desc (l : List Int) : Prop := l.Pairwise fun x y => y ≤ x
theorem desc_unique : ∀ {a b : List Int}, a.Perm b → Desc a → Desc b → a = b := by
  intro a
  induction a with
  | nil => intro b hp _ _; exact hp.nil_eq
  | cons x a ih =>
    intro b hp ha hb
    cases b with
    | nil => exact absurd hp.symm.nil_eq (by simp)
    | cons y b =>
      have hxy : x = y := by
        have h1 : x ∈ y :: b := hp.subset (List.mem_cons_self ..)
        have h2 : y ∈ x :: a := hp.symm.subset (List.mem_cons_self ..)
        rw [List.mem_cons] at h1 h2
        rcases h1 with h1 | h1
        · exact h1
        · rcases h2 with h2 | h2
          · exact h2.symm
          · have h3 := (List.pairwise_cons.1 hb).1 x h1
            have h4 := (List.pairwise_cons.1 ha).1 y h2
            omega
      subst hxy
      rw [ih hp.cons_inv (List.pairwise_cons.1 ha).2 (List.pairwise_cons.1 hb).2]
/-- What SortedDown returns. -/
def sortD (l : List Int) : List Int := l.mergeSort fun x y => decide (y ≤ x)
theorem sortD_perm (l : List Int) : (sortD l).Perm l := List.mergeSort_perm l _
theorem sortD_desc (l : List Int) : Desc (sortD l) := by
  have h := List.pairwise_mergeSort (le := fun x y : Int => decide (y ≤ x)) (by simp; omega) (by simp; omega) l
  exact h.imp fun h => by simpa using h
theorem sortD_of {l s : List Int} (hp : s.Perm l) (hs : Desc s) : s = sortD l := desc_unique (hp.trans (sortD_perm l).symm) hs (sortD_desc l)
theorem sortD_len (l : List Int) : (sortD l).length = l.length := (sortD_perm l).length_eq

/-- x among s, at q. -/
def bub (s : List Int) (x : Int) (q : Nat) : List Int := s.take q ++ x :: s.drop q
theorem bub_len {s : List Int} {x : Int} {q : Nat} (h : q ≤ s.length) : (bub s x q).length = s.length + 1 := by simp [bub]; omega
theorem bub_end (s : List Int) (x : Int) : bub s x s.length = s ++ [x] := by simp [bub]
theorem bub_self {s : List Int} {x : Int} {q : Nat} (h : q ≤ s.length) : (ints (bub s x q)).getD q undef = .int .i64 x := by
  rw [List.getD_eq_getElem?_getD, ints_at _ _ (by rw [bub_len h]; omega)]
  simp only [bub, Option.getD_some, Value.int.injEq, true_and]
  rw [List.getElem_append_right (by simp; omega)]
  simp [Nat.min_eq_left h]
theorem bub_eq {s : List Int} {x : Int} {p : Nat} (h : p < s.length) : bub s x (p + 1) = s.take p ++ s[p] :: x :: s.drop (p + 1) := by
  rw [bub, List.take_succ_eq_append_getElem h, List.append_assoc]; rfl
theorem bub_prev {s : List Int} {x : Int} {p : Nat} (h : p < s.length) : (ints (bub s x (p + 1))).getD p undef = .int .i64 s[p] := by
  rw [List.getD_eq_getElem?_getD, ints_at _ _ (by rw [bub_len (by omega)]; omega)]
  simp only [bub_eq h, Option.getD_some, Value.int.injEq, true_and]
  rw [List.getElem_append_right (by simp; omega)]
  simp [Nat.min_eq_left (Nat.le_of_lt h)]
theorem bub_step {s : List Int} {x : Int} {p : Nat} (h : p < s.length) : ((bub s x (p + 1)).set (p + 1) s[p]).set p x = bub s x p := by
  have hl : (s.take p).length = p := by rw [List.length_take]; omega
  rw [bub_eq h, List.set_append_right _ _ (by omega), hl, show p + 1 - p = 0 + 1 by omega, List.set_cons_succ, List.set_cons_zero, List.set_append_right _ _ (by omega), hl, Nat.sub_self, List.set_cons_zero, bub, List.drop_eq_getElem_cons h]
theorem bub_perm (s : List Int) (x : Int) (q : Nat) : (bub s x q).Perm (x :: s) := by
  have h : (bub s x q).Perm (x :: (s.take q ++ s.drop q)) := List.perm_middle
  rwa [List.take_append_drop] at h
theorem bub_desc {s : List Int} {x : Int} {q : Nat} (hq : q ≤ s.length) (hs : Desc s) (h1 : ∀ y ∈ s.drop q, y < x) (h2 : ∀ p, (h : p < s.length) → p + 1 = q → x ≤ s[p]) : Desc (bub s x q) := by
  have hs' := hs
  unfold Desc at hs
  rw [← List.take_append_drop q s, List.pairwise_append] at hs
  obtain ⟨a1, a2, a3⟩ := hs
  have hx : ∀ a ∈ s.take q, x ≤ a := fun a ha => by
    obtain ⟨i, hi, rfl⟩ := List.getElem_of_mem ha
    rw [List.length_take] at hi
    rw [List.getElem_take]
    have h3 := h2 (q - 1) (by omega) (by omega)
    by_cases e : i = q - 1
    · subst e; exact h3
    · have := List.pairwise_iff_getElem.1 hs' i (q - 1) (by omega) (by omega) (by omega)
      omega
  refine List.pairwise_append.2 ⟨a1, List.pairwise_cons.2 ⟨fun y hy => by have := h1 y hy; omega, a2⟩, fun a ha b hb => ?_⟩
  rcases List.mem_cons.1 hb with rfl | hb
  · exact hx a ha
  · exact a3 a ha b hb

set_option maxHeartbeats 2000000 in
theorem specSortedDown_any (v : Value) (l : List Int) (w : World) (hin : InRow w v l) (hl : l.length ≤ 1048576) :
    Calls Try.prog 93 #[v] w (IntsRes (sortD l) w) := by
  obtain ⟨a, c, rfl, hm, hp⟩ := hin
  unfold maxLen at hm
  have HP := hide fun h : l.length ≠ 0 => hp.resolve_left h
  obtain ⟨L, hL⟩ : ∃ L, L = l.length := ⟨_, rfl⟩
  have HL := hide hL
  rw [← hL] at hm hl ⊢
  clear hp hL
  have HO0 : Hid ((w.alloc (.cells #[] 3)).ownsRow w.heap.size 3 1 (.slice (some ⟨w.heap.size, 0, none⟩) 0 0) 0 []) := hide (World.ownsRow_made (base := w.heap.size) w #[] 0 (Nat.le_refl _) (Nat.zero_le _) rfl)
  have HB0 := hide ((Below.refl w.heap.size w).alloc (Nat.le_refl _) (.cells #[] 3))
  go_enter Try.func93, Try.ntmps93
  go_wp2
  go_loopw [3, 11] (fun o i wr => ∃ k : Nat, k ≤ L ∧ i = .int .i64 k ∧ (∃ s : List Int, s.length = k ∧ s.Perm (l.take k) ∧ Desc s ∧ wr.ownsRow w.heap.size 3 1 o k (ints s)) ∧ Below w.heap.size w wr) (fun _ i _ => L - (intOf i).toNat)
  case atStart => exact ⟨0, Nat.zero_le _, rfl, ⟨[], rfl, by simp, List.Pairwise.nil, HO0.out⟩, HB0.out⟩
  case round =>
    clear HO0 HB0
    obtain ⟨k, hk, rfl, ⟨s, hsl, hsp, hsd, hown⟩, hb⟩ := hrel
    have HO := hide hown; have HB := hide hb; have HSL := hide hsl; have HSP := hide hsp; have HSD := hide hsd
    obtain ⟨sa, sc, rfl⟩ := own_slice hown
    have hsz := hb.size
    clear hown hb hsl hsp hsd
    by_cases hlt : k < L
    · obtain ⟨g, o, rfl, hg, hc⟩ := HP.out (by have := HL.out; omega)
      have hk' : k < l.length := by rw [← HL.out]; exact hlt
      have hx := below_cell HB.out hg (hc k hk')
      have HXX := hide (show l.take (k + 1) = l.take k ++ [l[k]] from List.take_succ_eq_append_getElem hk')
      obtain ⟨x, hxx⟩ : ∃ x, x = l[k] := ⟨_, rfl⟩
      rw [← hxx] at hx HXX
      clear hxx hc
      go_wp2_with (at_builtin; refine wpList_push HO.out (.int .i64 x) (.int .i64 0) rfl _ _ rfl Try.underlying22 Try.infoInt rfl (by decide) rfl rfl rfl (by omega) (by omega) ?_; intro v' w6 hown1 hb1 hg1; obtain ⟨g1, cap1, rfl, hbg1, hg1', hc1', hm1, -, -⟩ := own_some hown1 (by omega); unfold maxLen at hm1; have HO1 := hide hown1; have HB1 := hide (HB.out.trans hb1); clear hown1 hb1 hg1)
      have HE0 : Hid (ints s ++ [Value.int .i64 x] = ints (bub s x k)) := hide (by rw [← HSL.out, bub_end]; simp [ints])
      rw [HE0.out] at HO1
      clear HE0 HO hx
      go_loopw [6] (fun i w2 => ∃ q : Nat, q ≤ k ∧ i = .int .i64 q ∧ w2.ownsRow w.heap.size 3 1 (.slice (some ⟨g1, 0, none⟩) (k + 1) cap1) (k + 1) (ints (bub s x q)) ∧ (∀ y ∈ s.drop q, y < x) ∧ Below w.heap.size w w2) (fun i _ => (intOf i).toNat)
      case atStart => exact ⟨k, Nat.le_refl _, by go_num, HO1.out, by rw [List.drop_of_length_le (by have := HSL.out; omega)]; simp, HB1.out⟩
      case round =>
        clear HO1 HB1
        obtain ⟨q, hq, rfl, hown, hall, hb⟩ := hrel
        have HO := hide hown; have HA := hide hall; have HB1 := hide hb
        clear hown hall hb
        have HFIN : Hid ((∀ p, (h : p < s.length) → p + 1 = q → x ≤ s[p]) → (bub s x q).Perm (l.take (k + 1)) ∧ Desc (bub s x q)) := hide fun h => by
          refine ⟨(bub_perm s x q).trans ?_, bub_desc (by have := HSL.out; omega) HSD.out HA.out h⟩
          rw [HXX.out]
          exact ((List.Perm.cons x HSP.out).trans (List.perm_append_singleton x _).symm)
        by_cases h0 : q = 0
        · subst h0
          have HF := hide (HFIN.out fun p _ e => by omega)
          clear HFIN
          go_wp2
          go_quiet (fail)
          go_wp2
          have HE1 : Hid ((bub s x 0).length = k + 1) := hide (by rw [bub_len (Nat.zero_le _), HSL.out])
          go_roundw
          case rel => exact ⟨k + 1, by omega, by go_num, ⟨bub s x 0, HE1.out, HF.out.1, HF.out.2, HO.out⟩, below_draws HB1.out _⟩
          case measure => simp [intOf]; omega
        · obtain ⟨p, rfl⟩ : ∃ p, q = p + 1 := ⟨q - 1, by omega⟩
          have hps : p < s.length := by have := HSL.out; omega
          have hc1 := cell_held HO.out (show p < k + 1 by omega)
          have hc2 := cell_held HO.out (show p + 1 < k + 1 by omega)
          rw [bub_prev hps] at hc1
          rw [bub_self (by have := HSL.out; omega)] at hc2
          by_cases hlq : s[p] < x
          · have hf1 := HO.out.frozenAt p
            have hf2 := HO.out.frozenAt (p + 1)
            have HS := hide fun n : Nat => by
              have HS2 := ((own_draws HO.out n).stored (p + 1) (.int .i64 s[p])).1.stored p (.int .i64 x)
              rw [ints_set, ints_set, bub_step hps] at HS2
              exact HS2.1
            have HALL : Hid (∀ y ∈ s.drop p, y < x) := hide fun y hy => by
              rw [List.drop_eq_getElem_cons hps] at hy
              rcases List.mem_cons.1 hy with rfl | hy
              · exact hlq
              · exact HA.out y hy
            have HBS := hide fun n : Nat => (((below_draws HB1.out n).setCell (p := ⟨g1, p + 1, none⟩) hbg1 (.int .i64 s[p])).setCell (p := ⟨g1, p, none⟩) hbg1 (.int .i64 x))
            obtain ⟨z, hz⟩ : ∃ z, z = s[p] := ⟨_, rfl⟩
            rw [← hz] at hc1 hlq HS HBS
            clear hz HFIN
            go_wp2
            go_quiet (fail)
            go_wp2
            go_roundw
            case rel => exact ⟨p, by omega, by go_num, HS.out _, HALL.out, HBS.out _⟩
            case measure => simp [intOf]
          · have HF := hide (HFIN.out fun p' h e => by obtain rfl : p' = p := by omega
                                                       omega)
            have HE1 : Hid ((bub s x (p + 1)).length = k + 1) := hide (by rw [bub_len (by omega), HSL.out])
            obtain ⟨z, hz⟩ : ∃ z, z = s[p] := ⟨_, rfl⟩
            rw [← hz] at hc1 hlq
            clear hz HFIN
            go_wp2
            go_quiet (fail)
            go_wp2
            go_roundw
            case rel => exact ⟨k + 1, by omega, by go_num, ⟨bub s x (p + 1), HE1.out, HF.out.1, HF.out.2, HO.out⟩, below_draws HB1.out _⟩
            case measure => simp [intOf]; omega
    · have HE : Hid (l.take k = l) := hide (List.take_of_length_le (by have := HL.out; omega))
      have HR : Hid (s = sortD l) := hide (sortD_of (by have := HSP.out; rwa [HE.out] at this) HSD.out)
      obtain rfl : k = L := by omega
      go_wp2
      go_ret
      exact ⟨_, rfl, by rw [← HR.out, HSL.out]; exact HO.out, HB.out⟩
end Go.Proofs.Ytecfigjkcpbggaa
