/-
  l05Fill of the model.
-/
import Derived.Test.YtecfigjkcpbggaaTop
import Derived.Test.YtecfigjkcpbggaaAppR
namespace Go.Proofs.Ytecfigjkcpbggaa
open Go.RowKit

theorem tabL_self (c : List Int) : tabL c.length (fun x => c.getD x 0) = c := by
  apply List.ext_getElem
  · rw [tabL_len]
  · intro i h1 h2
    rw [tabL_at, List.getD_eq_getElem?_getD, List.getElem?_eq_getElem h2]; rfl
/-- What a row leaves of the column sums. -/
def subL (c row : List Int) : List Int := tabL c.length fun x => c.getD x 0 - row.getD x 0
theorem subL_len (c row : List Int) : (subL c row).length = c.length := tabL_len _ _
theorem tabL_getD {n : Nat} {g : Nat → Int} {x : Nat} (h : x < n) : (tabL n g).getD x 0 = g x := by
  rw [List.getD_eq_getElem?_getD, List.getElem?_eq_getElem (by rw [tabL_len]; exact h), tabL_at]; rfl
theorem subL_top (c : List Int) (n : Nat) : subL c (topRow c n) = tabL c.length fun x => c.getD x 0 - topF c n x :=
  tabL_congr fun i hi => by rw [topRow, tabL_getD hi]
theorem top01 (c : List Int) (n x : Nat) : topF c n x = 0 ∨ topF c n x = 1 := by
  unfold topF
  split
  · exact .inr rfl
  · exact .inl rfl
/-- Numbers that are small enough to be reckoned with. -/
def Mid100 (m : Int) (c : List Int) : Prop := c.length ≤ 5 ∧ ∀ x, x < c.length → -m ≤ c.getD x 0 ∧ c.getD x 0 ≤ 100
/-- The image whose rows are chosen one after the other. -/
def imgL (ch : List Int → List Int → List Int) : List Int → List Int → List (List Int)
  | [], _ => []
  | a :: r, c => ch (a :: r) c :: imgL ch r (subL c (ch (a :: r) c))
def greedyCh (r c : List Int) : List Int := topRow c (r.headD 0).toNat
theorem imgL_len (ch : List Int → List Int → List Int) : ∀ (r c : List Int), (imgL ch r c).length = r.length
  | [], _ => rfl
  | a :: r, c => by rw [imgL, List.length_cons, imgL_len ch r, List.length_cons]
/-- What l05Fill returns. -/
def FillRes (c : List Int) (n : Nat) (w : World) (e : Ending) (w' : World) : Prop :=
  ∃ u v, e = .returned (.tuple #[u, v]) ∧ w'.ownsRow w.heap.size 3 1 u c.length (ints (topRow c n)) ∧ w'.ownsRow w.heap.size 3 1 v c.length (ints (subL c (topRow c n))) ∧ Below w.heap.size w w'
/-- The best of the first x columns that are white yet. -/
def BestOf (c : List Int) (n x : Nat) (b : Int) : Prop :=
  (b = -1 ∧ ∀ t, t < x → topF c n t = 1) ∨ ∃ k : Nat, b = k ∧ k < x ∧ topF c n k = 0 ∧ ∀ t, t < x → topF c n t = 0 → keyF c t ≤ keyF c k
theorem best_skip {c : List Int} {n x : Nat} {b : Int} (h : BestOf c n x b) (hx : topF c n x = 1) : BestOf c n (x + 1) b := by
  rcases h with ⟨h1, h2⟩ | ⟨k, h1, h2, h3, h4⟩
  · refine .inl ⟨h1, fun t ht => ?_⟩
    by_cases e : t = x
    · rw [e]; exact hx
    · exact h2 t (by omega)
  · refine .inr ⟨k, h1, by omega, h3, fun t ht h0 => ?_⟩
    by_cases e : t = x
    · rw [e, hx] at h0; cases h0
    · exact h4 t (by omega) h0
theorem best_first {c : List Int} {n x : Nat} (h : BestOf c n x (-1)) (hx : topF c n x = 0) : BestOf c n (x + 1) x := by
  rcases h with ⟨-, h2⟩ | ⟨k, h1, -⟩
  · refine .inr ⟨x, rfl, Nat.lt_succ_self _, hx, fun t ht h0 => ?_⟩
    by_cases e : t = x
    · rw [e]; exact Int.le_refl _
    · rw [h2 t (by omega)] at h0; cases h0
  · omega
theorem best_take {c : List Int} {n x k : Nat} (h : BestOf c n x k) (hx8 : x < 8) (hx : topF c n x = 0) (hgt : c.getD k 0 < c.getD x 0) : BestOf c n (x + 1) x := by
  rcases h with ⟨h1, -⟩ | ⟨k', h1, h2, h3, h4⟩
  · omega
  · obtain rfl : k = k' := by omega
    refine .inr ⟨x, rfl, Nat.lt_succ_self _, hx, fun t ht h0 => ?_⟩
    by_cases e : t = x
    · rw [e]; exact Int.le_refl _
    · have := h4 t (by omega) h0
      unfold keyF at this ⊢
      omega
theorem best_keep {c : List Int} {n x k : Nat} (h : BestOf c n x k) (hgt : ¬ c.getD k 0 < c.getD x 0) : BestOf c n (x + 1) k := by
  rcases h with ⟨h1, -⟩ | ⟨k', h1, h2, h3, h4⟩
  · omega
  · obtain rfl : k = k' := by omega
    refine .inr ⟨k, rfl, by omega, h3, fun t ht h0 => ?_⟩
    by_cases e : t = x
    · subst e; unfold keyF; omega
    · exact h4 t (by omega) h0
theorem best_end {c : List Int} {n : Nat} {b : Int} (hc : c.length ≤ 8) (hn : n < (sortK c).length) (h : BestOf c n c.length b) : b = ((sortK c)[n] : Nat) := by
  rcases h with ⟨-, h2⟩ | ⟨k, h1, h2, h3, h4⟩
  · have := h2 _ (sortK_mem.1 (List.getElem_mem hn))
    rw [topF_next hn] at this; cases this
  · rw [h1, next_of hc hn h2 h3 fun t ht h0 => h4 t ht h0]
theorem next_ex {c : List Int} {n : Nat} (hc : c.length ≤ 8) (hn : n < (sortK c).length) :
    ∃ b, b < c.length ∧ (∀ t, topF c (n + 1) t = if t = b then 1 else topF c n t) ∧ topF c n b = 0 ∧ ∀ q, BestOf c n c.length q → q = (b : Nat) :=
  ⟨(sortK c)[n], sortK_mem.1 (List.getElem_mem hn), fun t => topF_succ hn t, topF_next hn, fun _ h => best_end hc hn h⟩

set_option maxRecDepth 100000 in
set_option maxHeartbeats 4000000 in
theorem l05Fill_any (v : Value) (c : List Int) (s : Nat) (w : World) (hin : InRow w v c) (hC : 1 ≤ c.length) (hs : s ≤ c.length) (hM : Mid100 100 c) :
    Calls Try.prog 27 #[.int .i64 s, v] w (FillRes c s w) := by
  obtain ⟨hC5, hM⟩ := hM
  have HM := hide hM
  have HI := hide hin
  obtain ⟨a, cp, rfl, hm, hp⟩ := hin
  obtain ⟨g, o, rfl, hg, hc⟩ := hp.resolve_left (by omega)
  have HC := hide hc; have HG := hide hg
  unfold maxLen at hm
  have HKL := hide (sortK_len c)
  have HC8 : Hid (c.length ≤ 8) := hide (by omega)
  have HEX := hide (tabL_self c)
  have HX : Hid (∀ x, (h : x < c.length) → c.getD x 0 = c[x]) := hide fun x h => by rw [List.getD_eq_getElem?_getD, List.getElem?_eq_getElem h]; rfl
  have HRES : Hid (ints (topRow c s) = ints (tabL c.length (topF c s)) ∧ ints (subL c (topRow c s)) = ints (tabL c.length fun x => c.getD x 0 - topF c s x)) := hide ⟨rfl, by rw [subL_top]⟩
  unfold FillRes
  obtain ⟨C, hCC⟩ : ∃ C, C = c.length := ⟨_, rfl⟩
  have HCL := hide hCC
  have HROW : Hid (∀ j, (h : j < c.length) → w.cell? ⟨g, o + j, none⟩ = some (.int .i64 c[j])) := hide hc
  rw [← hCC] at HI HKL HRES HM hC hC5 hs hm ⊢
  clear hp hCC hM hc hg
  go_enter Try.func27, Try.ntmps27
  go_wp2_with (first | (at_make; refine wpList_new w.heap.size C (.int .i64 0) rfl _ _ rfl Try.underlying22 Try.infoInt rfl (by decide) rfl rfl (by omega) (Nat.le_refl _) ?_; intro w1 hown1 hb1 hg1; have HO1 := hide hown1; have HB1 := hide hb1; have HE : Hid ((w1.alloc (.cells #[] 3)).ownsRow w1.heap.size 3 1 (.slice (some ⟨w1.heap.size, 0, none⟩) 0 0) 0 []) := hide (World.ownsRow_made (base := w1.heap.size) w1 #[] 0 (Nat.le_refl _) (Nat.zero_le _) rfl); have HAL := hide ((Below.refl w1.heap.size w1).alloc (Nat.le_refl _) (.cells #[] 3)); have HCC : Hid (∀ j, (h : j < c.length) → (w1.alloc (.cells #[] 3)).cell? ⟨g, o + j, none⟩ = some (.int .i64 c[j])) := hide (fun j h => below_cell HAL.out (Nat.lt_of_lt_of_le HG.out hb1.size) (below_cell hb1 HG.out (HC.out j h))); have HSA := hide (show w1.heap.size ≤ (w1.alloc (.cells #[] 3)).heap.size by simp); clear hown1 hb1 hg1) | (refine wpList_appendRow 17 rfl HE.out c g o cp (.int .i64 0) rfl _ _ rfl Try.underlying22 Try.infoInt rfl (by decide) rfl (by rw [← HCL.out]; rfl) HCC.out (by rw [← HCL.out]; omega) HSA.out ?_; intro u2 w2 hu2 hb2 hg2; rw [← HCL.out, Nat.zero_add, List.nil_append] at hu2))
  obtain ⟨ua, uc, rfl⟩ := own_slice hu2
  obtain ⟨gu, cu, he, hbu, hgu, -, -, -, -⟩ := own_some hu2 hC
  cases he
  have HBA := hide (HAL.out.trans (hb2.mono (Nat.le_refl _)))
  have HRW : Hid (w2.ownsRow w.heap.size 3 1 (.slice (some ⟨w.heap.size, 0, none⟩) C C) C (ints (tabL C (topF c 0)))) := hide (by
    have := own_below HO1.out HBA.out
    rw [tabL_zero] at this
    rw [show tabL C (topF c 0) = tabL C (fun _ => 0) from tabL_congr fun i _ => topF_zero c i]; exact this)
  have HRE : Hid (w2.ownsRow w1.heap.size 3 1 (.slice (some ⟨gu, 0, none⟩) C uc) C (ints (tabL C fun x => c.getD x 0 - topF c 0 x))) := hide (by
    rw [show (tabL C fun x => c.getD x 0 - topF c 0 x) = c by
      rw [show (tabL C fun x => c.getD x 0 - topF c 0 x) = tabL C (fun x => c.getD x 0) from tabL_congr fun i _ => by rw [topF_zero]; simp]
      rw [HCL.out]; exact HEX.out]
    exact hu2)
  have HS1 := hide HB1.out.size
  have HB2 := hide (HB1.out.trans (HBA.out.mono HB1.out.size))
  have HGU := hide (show w1.heap.size ≤ gu from hbu)
  have HSW := hide (show w.heap.size < w1.heap.size by
    obtain ⟨g', cap', he, -, hg', -⟩ := own_some HO1.out hC
    cases he; exact hg')
  clear HE HAL HCC HSA hu2 hb2 hg2 hbu hgu HBA HO1 HB1
  go_wp2
  go_loopw [8] (fun i w' => ∃ k : Nat, k ≤ s ∧ i = .int .i64 k ∧ w'.ownsRow w.heap.size 3 1 (.slice (some ⟨w.heap.size, 0, none⟩) C C) C (ints (tabL C (topF c k))) ∧ w'.ownsRow w1.heap.size 3 1 (.slice (some ⟨gu, 0, none⟩) C uc) C (ints (tabL C fun x => c.getD x 0 - topF c k x)) ∧ Below w.heap.size w w') (fun i _ => s - (intOf i).toNat)
  case atStart => exact ⟨0, Nat.zero_le _, rfl, HRW.out, HRE.out, HB2.out⟩
  case round =>
    clear HRW HRE HB2
    obtain ⟨k, hk, rfl, hrow, hrest, hb⟩ := hrel
    have HO := hide hrow; have HE := hide hrest; have HB := hide hb
    clear hrow hrest hb
    by_cases hlt : k < s
    · have hkl : k < (sortK c).length := by rw [HKL.out]; omega
      have HNXT := hide (next_ex HC8.out hkl)
      clear hkl
      go_wp2
      go_loop [9, 25] (fun b i => ∃ (x : Nat) (q : Int), x ≤ C ∧ i = .int .i64 x ∧ b = .int .i64 q ∧ BestOf c k x q) (fun _ i => C - (intOf i).toNat)
      case atStart => exact ⟨0, -1, Nat.zero_le _, rfl, rfl, .inl ⟨rfl, fun t h => absurd h (Nat.not_lt_zero _)⟩⟩
      case round =>
        obtain ⟨x, q, hx, rfl, rfl, hbest⟩ := hrel
        have HBE := hide hbest
        clear hbest
        by_cases hltx : x < C
        · have hxc : x < c.length := by rw [← HCL.out]; exact hltx
          have hl := below_cell HB.out HG.out (HROW.out x hxc)
          rw [← HX.out x hxc] at hl
          have hr := cell_held HO.out hltx
          rw [tabL_held hltx] at hr
          have H01 := hide (top01 c k x)
          obtain ⟨t, ht⟩ : ∃ t, t = topF c k x := ⟨_, rfl⟩
          obtain ⟨lx, hlx⟩ : ∃ lx, lx = c.getD x 0 := ⟨_, rfl⟩
          have HT := hide ht; have HLX := hide hlx
          rw [← hlx] at hl
          rw [← ht] at hr H01
          clear ht hlx
          rcases H01.out with ht | ht
          · subst ht
            have hq : (q = -1 ∧ BestOf c k x (-1)) ∨ ∃ p : Nat, q = p ∧ p < x ∧ BestOf c k x p := by
              have := HBE.out
              rcases this with ⟨h1, h2⟩ | ⟨p, h1, h2, h3, h4⟩
              · exact .inl ⟨h1, .inl ⟨rfl, h2⟩⟩
              · exact .inr ⟨p, h1, h2, .inr ⟨p, rfl, h2, h3, h4⟩⟩
            rcases hq with ⟨rfl, hq⟩ | ⟨p, rfl, hp, hq⟩
            · have HN := hide (best_first hq HT.out.symm)
              clear hq
              go_wp2
              go_round
              case rel => exact ⟨x + 1, x, by omega, by go_num, rfl, HN.out⟩
              case measure => simp [intOf]; omega
            · have hpc : p < c.length := by rw [← HCL.out]; omega
              have hlp := below_cell HB.out HG.out (HROW.out p hpc)
              rw [← HX.out p hpc] at hlp
              have hpC : (p : Int) < C := by omega
              have HTK := hide (fun h => best_take hq (by have := hC5; omega) HT.out.symm h)
              have HKP := hide (fun h => best_keep (x := x) hq h)
              rw [← HLX.out] at HTK HKP
              obtain ⟨lp, hlp'⟩ : ∃ lp, lp = c.getD p 0 := ⟨_, rfl⟩
              rw [← hlp'] at hlp HTK HKP
              clear hq hlp'
              by_cases hgt : lp < lx
              · have HN := hide (HTK.out hgt)
                clear HTK HKP
                go_wp2
                go_round
                case rel => exact ⟨x + 1, x, by omega, by go_num, rfl, HN.out⟩
                case measure => simp [intOf]; omega
              · have HN := hide (HKP.out hgt)
                clear HTK HKP
                go_wp2
                go_round
                case rel => exact ⟨x + 1, p, by omega, by go_num, rfl, HN.out⟩
                case measure => simp [intOf]; omega
          · subst ht
            have HN := hide (best_skip HBE.out HT.out.symm)
            go_wp2
            go_round
            case rel => exact ⟨x + 1, q, by omega, by go_num, rfl, HN.out⟩
            case measure => simp [intOf]; omega
        · obtain rfl : x = C := by omega
          obtain ⟨b, hbC, hsuc, hnx, hend⟩ := HNXT.out
          have hq : q = (b : Int) := hend q (by rw [← HCL.out]; exact HBE.out)
          rw [← HCL.out] at hbC
          have HSUC := hide hsuc; have HNX := hide hnx
          clear hsuc hnx hend
          subst hq
          have hr := cell_held HO.out hbC
          rw [tabL_held hbC, HNX.out] at hr
          have he := cell_held HE.out hbC
          rw [tabL_held hbC, HNX.out, Int.sub_zero] at he
          have hmb := HM.out b hbC
          have hf1 := HO.out.frozenAt b
          have HS := HO.out.stored b (.int .i64 1)
          rw [ints_set, tabL_set] at HS
          rw [show (tabL x fun t => if t = b then 1 else topF c k t) = tabL x (topF c (k + 1)) from tabL_congr fun i _ => (HSUC.out i).symm] at HS
          have hne1 : (Value.slice (some ⟨gu, 0, none⟩) x uc).ownBlock = none ∨ (Value.slice (some ⟨gu, 0, none⟩) x uc).ownBlock ≠ some w.heap.size := by
            right; simp only [Value.ownBlock, ne_eq, Option.some.injEq]; have := HGU.out; have := HSW.out; omega
          have HE2 := HE.out.kept HS.2 hne1
          have he2 := cell_held HE2 hbC
          rw [tabL_held hbC, HNX.out, Int.sub_zero] at he2
          have hf2 := HE2.frozenAt b
          have HR2 := HE2.stored b (.int .i64 (c.getD b 0 - 1))
          rw [ints_set, tabL_set] at HR2
          rw [show (tabL x fun t => if t = b then c.getD b 0 - 1 else c.getD t 0 - topF c k t) = tabL x (fun t => c.getD t 0 - topF c (k + 1) t) from tabL_congr fun i _ => by
            rw [HSUC.out i]
            by_cases e : i = b
            · subst e; rw [if_pos rfl, if_pos rfl]
            · rw [if_neg e, if_neg e]] at HR2
          have hne2 : (Value.slice (some ⟨w.heap.size, 0, none⟩) x x).ownBlock = none ∨ (Value.slice (some ⟨w.heap.size, 0, none⟩) x x).ownBlock ≠ some gu := by
            right; simp only [Value.ownBlock, ne_eq, Option.some.injEq]; have := HGU.out; have := HSW.out; omega
          have HR1 := hide (HS.1.kept HR2.2 hne2)
          have HR3 := hide HR2.1
          have HBN := hide ((HB.out.setCell (p := ⟨w.heap.size, b, none⟩) (Nat.le_refl _) (.int .i64 1)).setCell (p := ⟨gu, b, none⟩) (show w.heap.size ≤ gu by have := HGU.out; have := HSW.out; omega) (.int .i64 (c.getD b 0 - 1)))
          obtain ⟨lb, hlb⟩ : ∃ lb, lb = c.getD b 0 := ⟨_, rfl⟩
          rw [← hlb] at he he2 HR3 HR1 HBN hmb
          obtain ⟨hmb1, hmb2⟩ := hmb
          clear hlb HS HR2 HE2 hne1 hne2
          go_wp2
          go_roundw
          case rel => exact ⟨k + 1, by omega, by go_num, HR1.out, HR3.out, HBN.out⟩
          case measure => simp [intOf]; omega
    · obtain rfl : k = s := by omega
      go_wp2
      go_ret2
      refine ⟨_, _, rfl, ?_, ?_, HB.out⟩
      · rw [HRES.out.1]; exact HO.out
      · rw [HRES.out.2]; exact own_base HE.out (by have := HSW.out; omega)
end Go.Proofs.Ytecfigjkcpbggaa
