/-
  slices.IndexFunc, ContainsFunc, DeleteFunc over rows.
-/
import Derived.Test.YtecfigjkcpbggaaLawsQ
import Derived.Test.YtecfigjkcpbggaaMatR
import Derived.Laws.IdiomCopy
import Derived.Lib.SliceRun
import Derived.Shelf.Abstract
import Derived.Deep.LoopGhost
namespace Go.Proofs.Ytecfigjkcpbggaa
open Go.RowKit Go.Shelf

/-- What the function value answers of a row that meets ok, in whatever world has grown out of W. -/
def RowPred (g : Nat) (cb : Array Value) (ok : List Int → Prop) (p : List Int → Bool) (W : World) : Prop :=
  ∀ (r : List Int) (u : Value) (w : World), ok r → Below W.heap.size W w → InRow w u r → Calls Try.prog g (#[u] ++ cb) w fun e w' => e = .returned (.bool (p r)) ∧ Below w.heap.size w w'
theorem rowPred_mono {g : Nat} {cb : Array Value} {ok : List Int → Prop} {p : List Int → Bool} {W W' : World} (h : RowPred g cb ok p W) (hb : Below W.heap.size W W') : RowPred g cb ok p W' :=
  fun r u w ho hw hr => h r u w ho (hb.trans (hw.mono hb.size)) hr
/-- The place of the first row at which p holds, or -1. -/
def idxP (p : List Int → Bool) (m : List (List Int)) : Int := if m.findIdx p < m.length then (m.findIdx p : Nat) else -1
theorem idxP_hit {p : List Int → Bool} {m : List (List Int)} {k : Nat} (hk : k < m.length) (h : p m[k] = true) (ha : ∀ t, (ht : t < m.length) → t < k → p m[t] = false) : idxP p m = k := by
  have : m.findIdx p = k := (List.findIdx_eq hk).2 ⟨h, fun j hj => ha j (by omega) hj⟩
  rw [idxP, this, if_pos hk]
theorem idxP_miss {p : List Int → Bool} {m : List (List Int)} (ha : ∀ t, (ht : t < m.length) → p m[t] = false) : idxP p m = -1 := by
  rw [idxP, if_neg]
  intro h
  have := List.findIdx_getElem (w := h)
  rw [ha _ h] at this; cases this
theorem idxP_any (p : List Int → Bool) (m : List (List Int)) : decide (0 ≤ idxP p m) = m.any p := by
  cases h : m.any p with
  | true =>
    rw [List.any_eq_true] at h
    obtain ⟨x, hx, hp⟩ := h
    have := List.findIdx_lt_length_of_exists ⟨x, hx, hp⟩
    rw [idxP, if_pos this]; simp
  | false =>
    rw [List.any_eq_false] at h
    rw [idxP_miss fun t ht => by simpa using h _ (List.getElem_mem ht)]; rfl
set_option maxHeartbeats 1000000 in
theorem idxRows_any (v : Value) (m : List (List Int)) (g : Nat) (cb : Array Value) (ok : List Int → Prop) (p : List Int → Bool) (w : World) (eg : ∀ args w, (callFunc g args).run Try.prog w = .ok (.enter g args) w) (hin : InMat w v m) (hok : ∀ r ∈ m, ok r) (hp : RowPred g cb ok p w) :
    Calls Try.prog 63 #[v, .func (.func g) #[] cb] w fun e w' => e = .returned (.int .i64 (idxP p m)) ∧ Below w.heap.size w w' := by
  obtain ⟨a, c, rfl, hm, hpl⟩ := hin
  unfold maxLen at hm
  have HP := hide hp; have HOK := hide hok
  clear hp hok
  by_cases h0 : m.length = 0
  · have hr : m = [] := List.eq_nil_of_length_eq_zero h0
    subst hr
    clear hpl h0 hm
    go_enter Try.func63, Try.ntmps63
    go_wp2
    go_loop [8] (fun i => i = .int .i64 0) (fun _ => 0)
    case atStart => rfl
    case round =>
      obtain rfl := hrel
      go_wp2
      go_ret
      exact ⟨rfl, Below.refl _ _⟩
  · obtain ⟨b, o, rfl, hg, hc⟩ := hpl.resolve_left h0
    have HC := hide hc; have HG := hide hg
    obtain ⟨n, hn⟩ : ∃ n, n = m.length := ⟨_, rfl⟩
    have HN := hide hn
    rw [← hn] at hm ⊢
    clear hpl hc h0 hn hg
    go_enter Try.func63, Try.ntmps63
    go_wp2
    go_loopw [8] (fun i w' => ∃ k : Nat, k ≤ n ∧ i = .int .i64 k ∧ (∀ t, (h : t < m.length) → t < k → p m[t] = false) ∧ Below w.heap.size w w') (fun i _ => n - (intOf i).toNat)
    case atStart => exact ⟨0, Nat.zero_le _, rfl, fun t _ h => absurd h (Nat.not_lt_zero _), Below.refl _ _⟩
    case round =>
      obtain ⟨k, hk, rfl, hall, hb⟩ := hrel
      have HA := hide hall; have HB := hide hb
      clear hall hb
      by_cases hlt : k < n
      · have hk' : k < m.length := by rw [← HN.out]; exact hlt
        obtain ⟨u, hu, hru⟩ := HC.out k hk'
        have hx := below_cell HB.out HG.out hu
        have HCALL := hide (HP.out m[k] u wr (HOK.out _ (List.getElem_mem hk')) HB.out (inRow_below hru HB.out))
        have HHIT := hide (fun h => idxP_hit (p := p) hk' h HA.out)
        have HST : Hid (p m[k] = false → ∀ t, (h : t < m.length) → t < k + 1 → p m[t] = false) := hide fun h t h1 ht => by
          by_cases e : t = k
          · subst e; exact h
          · exact HA.out t h1 (by omega)
        clear hu hru
        obtain ⟨q, hq⟩ : ∃ q, q = p m[k] := ⟨_, rfl⟩
        rw [← hq] at HCALL HHIT HST
        clear hq
        cases q with
        | true =>
          have HF := hide (HHIT.out rfl); clear HHIT HST
          go_wp2_with (go_at_fn g; refine HCALL.out.mono ?_; rintro e w9 ⟨rfl, hb9⟩; have HB9 := hide (HB.out.trans (hb9.mono HB.out.size)); clear hb9)
          go_ret
          exact ⟨by rw [HF.out]; rfl, HB9.out⟩
        | false =>
          have HS2 := hide (HST.out rfl); clear HST HHIT
          go_wp2_with (go_at_fn g; refine HCALL.out.mono ?_; rintro e w9 ⟨rfl, hb9⟩; have HB9 := hide (HB.out.trans (hb9.mono HB.out.size)); clear hb9)
          go_roundw
          case rel => exact ⟨k + 1, by omega, by go_num, HS2.out, HB9.out⟩
          case measure => simp [intOf]; omega
      · have HY := hide (idxP_miss (p := p) fun t h => HA.out t h (by have := HN.out; omega))
        go_wp2
        go_ret
        exact ⟨by rw [HY.out]; rfl, HB.out⟩
set_option maxHeartbeats 400000 in
theorem containsRows_any (v : Value) (m : List (List Int)) (g : Nat) (cb : Array Value) (ok : List Int → Prop) (p : List Int → Bool) (w : World) (eg : ∀ args w, (callFunc g args).run Try.prog w = .ok (.enter g args) w) (hin : InMat w v m) (hok : ∀ r ∈ m, ok r) (hp : RowPred g cb ok p w) :
    Calls Try.prog 35 #[v, .func (.func g) #[] cb] w fun e w' => e = .returned (.bool (m.any p)) ∧ Below w.heap.size w w' := by
  have HI := hide (idxRows_any v m g cb ok p w eg hin hok hp)
  have HY := hide (idxP_any p m)
  have hlo : -1 ≤ idxP p m ∧ idxP p m ≤ maxLen := by
    obtain ⟨a, c, -, hm, -⟩ := hin
    unfold idxP
    by_cases h : m.findIdx p < m.length
    · rw [if_pos h]; omega
    · rw [if_neg h]; exact ⟨by omega, by unfold maxLen; omega⟩
  unfold maxLen at hlo
  obtain ⟨q, hq⟩ : ∃ q, q = idxP p m := ⟨_, rfl⟩
  rw [← hq] at HI HY hlo
  rw [← HY.out]
  obtain ⟨hlo, hhi⟩ := hlo
  clear hin hok hp hq eg HY
  go_enter Try.func35, Try.ntmps35
  go_wp2_with (go_at_call 63; refine HI.out.mono ?_; rintro e w9 ⟨rfl, hb9⟩; have HB9 := hide hb9; clear hb9)
  go_ret
  exact ⟨rfl, HB9.out⟩
end Go.Proofs.Ytecfigjkcpbggaa
