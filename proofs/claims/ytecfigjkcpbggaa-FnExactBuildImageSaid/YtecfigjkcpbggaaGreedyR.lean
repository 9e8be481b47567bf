/-
  greedyRow of the program.
-/
import Derived.Test.YtecfigjkcpbggaaGreedy
namespace Go.Proofs.Ytecfigjkcpbggaa
open Go.RowKit Go.Shelf

theorem idx_range (C : Nat) : (tabL C fun k => ((k : Int) + 1) - 1) = idxL (List.range C) := by
  apply List.ext_getElem
  · simp [tabL, idxL]
  · intro i h1 h2
    rw [tabL_at]; simp [idxL]
theorem enters_before : ∀ args w, (callFunc 55 args).run Try.prog w = .ok (.enter 55 args) w := enters_of Try.func55 (by kernel_rfl) rfl
theorem columns_any (C : Nat) (w : World) (h : 1 ≤ C ∧ C ≤ 5) : Calls Try.prog 54 #[.int .i64 C, .func (.func 55) #[] #[]] w (IntsRes (idxL (List.range C)) w) := by
  have := collectG_any C 55 #[] (fun k => k - 1) w enters_before h (fun k w' h1 h2 _ => before_any k w' (by omega))
  rw [← idx_range]; exact this
set_option maxHeartbeats 2000000 in
theorem greedyRow_any (vr vl : Value) (r c : List Int) (s : Nat) (w : World) (hr : InRow w vr r) (hc : InRow w vl c) (hC : 1 ≤ c.length ∧ c.length ≤ 5) (hr0 : 0 < r.length) (h0 : r[0] = s) (hs : s ≤ c.length) :
    Calls Try.prog 30 #[vr, vl] w (IntsRes (topRow c s) w) := by
  have hbox := (Below.refl w.heap.size w).alloc (Nat.le_refl _) (.cells #[vl] 22)
  have HBX := hide hbox
  have HCX := hide (show (w.alloc (.cells #[vl] 22)).cell? ⟨w.heap.size, 0, none⟩ = some vl by simp [World.cell?_alloc_new])
  have HI := hide (inRow_below hc hbox)
  have HSZ := hide (show (w.alloc (.cells #[vl] 22)).heap.size = w.heap.size + 1 by simp)
  obtain ⟨ar, cr, rfl, hmr, hpr⟩ := hr
  obtain ⟨gr, or', rfl, hgr, hcr⟩ := hpr.resolve_left (by omega)
  have HR0 := hide (hcr 0 hr0)
  rw [h0, Nat.add_zero] at HR0
  have HGR := hide hgr
  obtain ⟨al, cl, rfl, hml, hpl⟩ := hc
  unfold maxLen at hmr hml
  obtain ⟨R, hR⟩ : ∃ R, R = r.length := ⟨_, rfl⟩
  rw [← hR] at hmr hr0 ⊢
  obtain ⟨C, hCC⟩ : ∃ C, C = c.length := ⟨_, rfl⟩
  have HCL := hide hCC
  rw [← hCC] at hC hs hml HI HCX HBX HSZ ⊢
  have HKL : Hid ((sortK c).length = C) := hide (by rw [sortK_len, hCC])
  obtain ⟨hC1, hC2⟩ := hC
  clear hbox hcr hpl hpr hR hCC h0 hgr
  go_enter Try.func30, Try.ntmps30
  go_wp2_with fail
  generalize hW : w.alloc (.cells #[Value.slice al C cl] 22) = W1 at HSZ HBX HCX HI ⊢
  clear hW
  refine (columns_any C _ ⟨hC1, hC2⟩).mono ?_
  rintro e w2 ⟨v2, rfl, ho, hb⟩
  rw [show (idxL (List.range C)).length = C by simp [idxL]] at ho
  obtain ⟨g2, c2, rfl, hbg2, hg2, hcc2, hm2, -, -⟩ := own_some ho hC1
  unfold maxLen at hm2
  have HQ := hide (fun (w' : World) (hw : Below W1.heap.size w2 w') => (⟨inRow_below HI.out (hb.trans hw), below_cell (hb.trans hw) (by rw [HSZ.out]; omega) HCX.out⟩ : InRow w' (.slice al C cl) c ∧ w'.cell? ⟨w.heap.size, 0, none⟩ = some (.slice al C cl)))
  have hx2 := (HQ.out w2 (Below.refl _ _)).2
  have hsrt := stable_any W1.heap.size g2 c2 (.slice al C cl) c w.heap.size w2 (by rw [← HCL.out]; exact ho) hb.size (by rw [← HCL.out]; exact hC1) (by rw [← HCL.out]; exact hC2) HQ.out
  rw [← HCL.out] at hsrt
  have HSRT := hide hsrt
  have HB2 := hide hb
  clear ho hb hsrt hbg2 hg2
  go_wp2_with fail
  refine HSRT.out.mono ?_
  rintro e w3 ⟨rfl, ho, hb⟩
  have HO3 := hide ho; have HB3 := hide (HB2.out.trans hb); have hx3 := (HQ.out w3 hb).2; have hs3 := HB3.out.size
  clear ho hb hx2 HSRT
  have HS3 := hide (show w.heap.size ≤ w3.heap.size by have := HSZ.out; omega)
  go_wp2_with (at_make; refine wpList_new w3.heap.size C (.int .i64 0) rfl _ _ rfl Try.underlying22 Try.infoInt rfl (by decide) rfl rfl (by omega) (Nat.le_refl _) ?_; intro w4 hown hb hg; have HO4 := hide hown; have HOC := hide (own_below HO3.out hb); have HB4 := hide hb; have hr4 := below_cell ((HBX.out.trans (HB3.out.mono HBX.out.size)).trans (hb.mono HS3.out)) HGR.out HR0.out; clear hown hb hg)
  have HCOL : Hid (∀ w', Below w3.heap.size w4 w' → ∀ k, (h : k < (sortK c).length) → w'.cell? ⟨g2, k, none⟩ = some (.int .i64 ((sortK c)[k] : Nat))) := hide fun w' hb k h => by
    have hk : k < C := by rw [HKL.out] at h; exact h
    obtain ⟨g', cap', he, -, hg', -, -, hcell, -⟩ := own_some HO3.out (by omega)
    cases he
    rw [(HB4.out.trans hb).cell (p := ⟨g2, k, none⟩) hg', hcell k hk, ints_at _ k (by simp [idxL]; exact h)]
    simp [idxL]
  clear HOC HO3 hx3 hr4
  go_loopw [24] (fun i w' => ∃ k : Nat, k ≤ s ∧ i = .int .i64 k ∧ w'.ownsRow w3.heap.size 3 1 (.slice (some ⟨w3.heap.size, 0, none⟩) C C) C (ints (tabL C (topF c k))) ∧ Below w3.heap.size w4 w') (fun i _ => s - (intOf i).toNat)
  case atStart => exact ⟨0, Nat.zero_le _, rfl, by rw [tabL_zero] at HO4; rw [show tabL C (topF c 0) = tabL C (fun _ => 0) from tabL_congr fun i _ => topF_zero c i]; exact HO4.out, Below.refl _ _⟩
  case round =>
    clear HO4
    obtain ⟨k, hk, rfl, hown, hb⟩ := hrel
    have HO := hide hown; have HB := hide hb
    clear hown hb
    by_cases hlt : k < s
    · have hkl : k < (sortK c).length := by rw [HKL.out]; omega
      have hcol := HCOL.out wr HB.out k hkl
      have hxC : (sortK c)[k] < C := by rw [HCL.out]; exact sortK_mem.1 (List.getElem_mem hkl)
      have HNX := hide (topF_next hkl)
      have HSUC := hide (fun x => topF_succ hkl x)
      obtain ⟨x, hx⟩ : ∃ x, x = (sortK c)[k] := ⟨_, rfl⟩
      rw [← hx] at hcol hxC HNX HSUC
      have hc1 := cell_held HO.out hxC
      rw [tabL_held hxC, HNX.out] at hc1
      have hf := HO.out.frozenAt x
      have HS := HO.out.stored x (.int .i64 1)
      rw [ints_set, tabL_set] at HS
      rw [show (tabL C fun t => if t = x then 1 else topF c k t) = tabL C (topF c (k + 1)) from tabL_congr fun i _ => (HSUC.out i).symm] at HS
      have HS := hide HS
      clear hx
      go_wp2
      go_roundw
      case rel => exact ⟨k + 1, by omega, by go_num, HS.out.1, HB.out.setCell (Nat.le_refl _) _⟩
      case measure => simp [intOf]; omega
    · obtain rfl : k = s := by omega
      go_wp2
      go_ret
      refine ⟨_, rfl, ?_, ?_⟩
      · rw [topRow_len, ← HCL.out, topRow, ← HCL.out]; exact own_base HO.out HS3.out
      · exact (HBX.out.trans (HB3.out.mono HBX.out.size)).trans ((HB4.out.trans HB.out).mono HS3.out)
end Go.Proofs.Ytecfigjkcpbggaa
