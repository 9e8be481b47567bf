/-
  BuildImage of the program.
-/
import Derived.Test.YtecfigjkcpbggaaImgBy
import Derived.Test.YtecfigjkcpbggaaGreedyR
import Derived.Test.YtecfigjkcpbggaaBuildS
namespace Go.Proofs.Ytecfigjkcpbggaa
open Go.RowKit Go.Shelf

/-- What holds while the image is constructed. -/
def InvG (r c : List Int) : Prop := r.length ≤ 5 ∧ (1 ≤ c.length ∧ c.length ≤ 5) ∧ (∀ x ∈ r, 0 ≤ x ∧ x ≤ c.length) ∧ Mid100 (5 - r.length) c
theorem invG_start {r c : List Int} (h : existsOf r c = true) : InvG r c := by
  have hs := existsOf_sums h
  obtain ⟨hr, hc, hrb, -, -⟩ := sumsOk_yes hs
  refine ⟨hr.2, hc, fun x hx => ?_, mid_mono (mid_start hs) (by omega)⟩
  obtain ⟨k, hk, rfl⟩ := List.getElem_of_mem hx
  exact noBad_at hrb hk
theorem choice_greedy : Choice 30 greedyCh InvG where
  enters := enters_of Try.func30 (by kernel_rfl) rfl
  calls a r c vr vc w hI hr hc := by
    obtain ⟨h1, h2, h3, -⟩ := hI
    have ha := h3 a List.mem_cons_self
    refine greedyRow_any vr vc (a :: r) c a.toNat w hr.1 hc h2 (by simp) (by simp; omega) (by omega)
  next a r c hI := by
    obtain ⟨h1, h2, h3, h4⟩ := hI
    rw [List.length_cons] at h1 h4
    have hl : (greedyCh (a :: r) c).length = c.length := topRow_len _ _
    refine ⟨by omega, h2.2, hl, ⟨by omega, by rw [subL_len]; exact h2, fun x hx => by rw [subL_len]; exact h3 x (List.mem_cons_of_mem _ hx), ?_⟩, fun x hx => by have := h4.2 x hx; omega, fun x hx => ?_⟩
    · exact mid_mono (mid_sub (n := a.toNat) h4) (by omega)
    · show -1000 ≤ (topRow c a.toNat).getD x 0 ∧ (topRow c a.toNat).getD x 0 ≤ 1000
      rw [topRow, tabL_getD hx]
      rcases top01 c a.toNat x with e | e <;> rw [e] <;> omega
set_option maxHeartbeats 400000 in
theorem implBuild_any (va vb : Value) (r c : List Int) (w : World) (ha : RowC w va r) (hb : RowC w vb c) :
    Calls Try.prog 10 #[va, vb] w (MatRes2 (if existsOf r c = true then imgL greedyCh r c else []) (existsOf r c) w) := by
  have HA := hide ha; have HB := hide hb; have HA1 := hide ha.1; have HB1 := hide hb.1
  cases h : existsOf r c with
  | false =>
    rw [if_neg (by decide)]
    have H := hide h
    clear ha hb h
    go_enter Try.func10, Try.ntmps10
    go_wp2_with ((with_reducible refine (implExists_any va vb r c _ HA1.out HB1.out).mono ?_); rw [H.out]; rintro e w1 ⟨rfl, b1⟩; have B1 := hide b1; clear b1)
    go_ret2
    exact matRes2_nil B1.out
  | true =>
    rw [if_pos rfl]
    have H := hide h
    have HI := hide (invG_start h)
    clear ha hb h
    go_enter Try.func10, Try.ntmps10
    go_wp2_with (first | ((with_reducible refine (implExists_any va vb r c _ HA1.out HB1.out).mono ?_); rw [H.out]; rintro e w1 ⟨rfl, b1⟩; have B1 := hide b1; clear b1) | (go_at_call 29; refine (imageBy_any 30 greedyCh InvG choice_greedy r c va vb _ HI.out (rowC_below HA.out B1.out) (inRow_below HB1.out B1.out)).mono ?_; rintro e w2 ⟨v, rfl, ho, hb⟩; have HO := hide (ownMat_mono ho B1.out.size (Nat.le_refl _)); have B2 := hide (B1.out.trans (hb.mono B1.out.size)); clear ho hb))
    go_ret2
    exact ⟨_, rfl, HO.out, B2.out⟩
theorem imgL_rows (ch : List Int → List Int → List Int) (n : Nat) (hch : ∀ r c, c.length = n → (ch r c).length = n) : ∀ (r c : List Int), c.length = n → ∀ q ∈ imgL ch r c, q.length = n
  | [], _, _, q, hq => by simp [imgL] at hq
  | a :: r, c, hc, q, hq => by
    rw [imgL, List.mem_cons] at hq
    rcases hq with rfl | hq
    · exact hch _ _ hc
    · exact imgL_rows ch n hch r _ (by rw [subL_len]; exact hc) q hq
end Go.Proofs.Ytecfigjkcpbggaa
