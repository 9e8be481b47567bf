/-
  Texts of this claim, one behind the other: Greedy, GreedyR, BuildI, GreedyP, BuiltP, Alike, Before, Draw.
-/
import Derived.Test.YtpfaaglaeholbaaGreatPackE
import Derived.Test.YtpfaaglaeholbaaGreatPackJ
import Derived.Test.YtpfaaglaeholbaaGreatPackM
import Derived.Test.YtpfaaglaeholbaaGreatPackL
import Derived.Test.YtpfaaglaeholbaaGreatPackK
import Derived.Test.YtpfaaglaeholbaaGreatPackH
/-
  greedyRow of the program: the columns by the library's stable sort.
-/
namespace Go.Proofs.YtpfaaglaeholbaaGreat
open Go.RowKit Go.Shelf

set_option maxHeartbeats 1000000 in
/-- collect at whatever function value that reads. -/
theorem collectG_any (n g : Nat) (cb : Array Value) (h : Int → Int) (w : World) (eg : ∀ args w, (callFunc g args).run Tryz.prog w = .ok (.enter g args) w) (hn : 1 ≤ n ∧ n ≤ 5)
    (hf : ∀ (k : Nat) (w' : World), 1 ≤ k → k ≤ n → Below w.heap.size w w' → Calls Tryz.prog g (#[.int .i64 k] ++ cb) w' fun e w'' => e = .returned (.int .i64 (h k)) ∧ w' = w'') :
    Calls Tryz.prog 68 #[.int .i64 n, .func (.func g) #[] cb] w (IntsRes (tabL n fun k => h (k + 1)) w) := by
  have HF := hide hf
  obtain ⟨h11, h12⟩ := hn
  clear hf
  go_enter Tryz.func68, Tryz.ntmps68
  go_wp2_with (at_make; refine wpList_new w.heap.size n (.int .i64 0) rfl _ _ rfl Tryz.underlying25 Tryz.infoInt rfl (by decide) rfl rfl (by omega) (Nat.le_refl _) ?_; intro w1 hown1 hb1 hg1)
  have HO := hide hown1; have HB := hide hb1
  clear hown1 hb1 hg1
  go_wp2
  go_loopw [10] (fun i w' => ∃ k : Nat, k ≤ n ∧ i = .int .i64 k ∧ w'.ownsRow w.heap.size 3 1 (.slice (some ⟨w.heap.size, 0, none⟩) n n) n (ints (tabL n fun t => if t < k then h (t + 1) else 0)) ∧ Below w.heap.size w w') (fun i _ => n - (intOf i).toNat)
  case atStart => exact ⟨0, Nat.zero_le _, rfl, by rw [tabL_zero] at HO; exact HO.out, HB.out⟩
  case round =>
    clear HO HB
    obtain ⟨k, hk, rfl, hown, hb⟩ := hrel
    have HO := hide hown; have HB := hide hb
    clear hown hb
    by_cases hlt : k < n
    · have hc1 := cell_held HO.out hlt
      have hf := HO.out.frozenAt k
      have HS := HO.out.stored k (.int .i64 (h (k + 1)))
      rw [ints_set, tabL_set] at HS
      have e2 : (tabL n fun t => if t = k then h ((k : Int) + 1) else if t < k then h (t + 1) else 0) = tabL n fun t => if t < k + 1 then h (t + 1) else 0 := tabL_congr fun i _ => by
        by_cases e : i = k
        · subst e; rw [if_pos rfl, if_pos (Nat.lt_succ_self _)]
        · rw [if_neg e]
          by_cases e' : i < k
          · rw [if_pos e', if_pos (by omega)]
          · rw [if_neg e', if_neg (by omega)]
      rw [e2] at HS
      have HS := hide HS
      clear e2
      have HCA := HF.out (k + 1) wr (by omega) (by omega) HB.out
      rw [show (((k + 1 : Nat) : Int)) = (k : Int) + 1 by omega] at HCA
      have HCA := hide HCA
      obtain ⟨z, hz⟩ : ∃ z, z = h ((k : Int) + 1) := ⟨_, rfl⟩
      rw [← hz] at HS HCA
      clear hz
      go_wp2_with (go_at_fn g; refine HCA.out.mono ?_; rintro e w9 ⟨rfl, rfl⟩)
      go_roundw
      case rel => exact ⟨k + 1, by omega, by go_num, HS.out.1, HB.out.setCell (Nat.le_refl _) _⟩
      case measure => simp [intOf]; omega
    · obtain rfl : k = n := by omega
      have e3 : (tabL k fun t => if t < k then h (t + 1) else 0) = tabL k fun t => h (t + 1) := tabL_congr fun i hi => by rw [if_pos hi]
      have HO : Hid _ := hide (e3 ▸ HO.out)
      clear e3
      go_wp2
      go_ret
      exact ⟨_, rfl, by rw [tabL_len]; exact HO.out, HB.out⟩
theorem before_any (k : Int) (w : World) (h : -100 ≤ k ∧ k ≤ 100) : Calls Tryz.prog 69 #[.int .i64 k] w fun e w' => e = .returned (.int .i64 (k - 1)) ∧ w = w' := by
  obtain ⟨h1, h2⟩ := h
  go_enter Tryz.func69, Tryz.ntmps69
  go_wp2
  go_ret
  exact ⟨rfl, rfl⟩
theorem compare_quiet (x y : Int) (w : World) (n : Nat) :
    Calls Tryz.prog 72 #[.int .i64 x, .int .i64 y] (w.drewN n) fun e w'' => e = .returned (.int .i64 (cmpI x y)) ∧ ∃ k, w'' = w.drewN k := by
  refine Calls.quiet_of_same ((compare_any x y (w.drewN n)).mono ?_)
  rintro e w' ⟨rfl, rfl⟩
  exact ⟨rfl, rfl⟩
set_option maxHeartbeats 1000000 in
theorem greedyCmp_any (v : Value) (c : List Int) (a b q : Nat) (w : World) (hin : InRow w v c) (hq : w.cell? ⟨q, 0, none⟩ = some v) (ha : a < c.length) (hb : b < c.length) :
    Calls Tryz.prog 71 #[.int .i64 a, .int .i64 b, .pointer (some ⟨q, 0, none⟩)] w fun e w' => e = .returned (.int .i64 (cmpI (c.getD b 0) (c.getD a 0))) ∧ ∃ m, w' = w.drewN m := by
  obtain ⟨x, cp, rfl, hm, hp⟩ := hin
  obtain ⟨g, o, rfl, hg, hc⟩ := hp.resolve_left (by omega)
  have h1 := hc a ha
  have h2 := hc b hb
  unfold maxLen at hm
  rw [List.getD_eq_getElem?_getD, List.getD_eq_getElem?_getD, List.getElem?_eq_getElem ha, List.getElem?_eq_getElem hb, Option.getD_some, Option.getD_some]
  obtain ⟨xa, hxa⟩ : ∃ xa, xa = c[a] := ⟨_, rfl⟩
  obtain ⟨xb, hxb⟩ : ∃ xb, xb = c[b] := ⟨_, rfl⟩
  rw [← hxa] at h1 ⊢
  rw [← hxb] at h2 ⊢
  obtain ⟨L, hL⟩ : ∃ L, L = c.length := ⟨_, rfl⟩
  rw [← hL] at ha hb hm hq
  clear hxa hxb hc hp hL hg
  go_enter Tryz.func71, Tryz.ntmps71
  go_wp2
  go_quiet ((go_at_call 72; exact compare_quiet xb xa _ _))
  go_wp2
  go_ret
  exact ⟨rfl, _, rfl⟩

def encF {C : Nat} (i : Fin C) : Value := .int .i64 (i.val : Int)
theorem own_sortedF {w : World} {base E n g cap C : Nat} [Inhabited (Fin C)] {xs : List Value} (d : Array (Fin C)) (m : Nat) (os : Array Obj) (h : w.ownsRow base E 1 (.slice (some ⟨g, 0, none⟩) n cap) n xs) (hs : d.size = n) :
    (sortWorld encF w g 0 m d os).ownsRow base E 1 (.slice (some ⟨g, 0, none⟩) n cap) n (d.toList.map encF) ∧ w.grownBy (sortWorld encF w g 0 m d os) (some g) := by
  rcases h.2 with ⟨he, _⟩ | ⟨g', cap', cur, he, hbg, hg, hc, hm, hz, ht⟩
  · cases he
  cases he
  have hgl := (Array.getElem?_eq_some_iff.1 hg).1
  have hheap : (sortWorld encF w g 0 m d os).heap = w.heap.modify g (Go.Sort.onCells (Go.Sort.putCells encF 0 d)) ++ os := rfl
  have hsz : (w.heap.modify g (Go.Sort.onCells (Go.Sort.putCells encF 0 d))).size = w.heap.size := Array.size_modify
  have hat : (sortWorld encF w g 0 m d os).heap[g]? = some (.cells (Go.Sort.putCells encF 0 d cur) E (0, 0)) := by
    rw [hheap, Array.getElem?_append_left (by rw [hsz]; exact hgl), Array.getElem?_modify, if_pos rfl, hg]; rfl
  refine ⟨⟨by simp; omega, .inr ⟨g, cap, _, rfl, hbg, hat, hc, hm, by rw [Go.Sort.putCells, Array.size_mapIdx]; exact hz, ?_⟩⟩, ⟨rfl, rfl, rfl, by rw [hheap, Array.size_append, hsz]; omega, fun k hk hne => ?_⟩⟩
  · apply List.ext_getElem
    · rw [List.length_take, Array.length_toList, Go.Sort.putCells, Array.size_mapIdx, List.length_map, Array.length_toList]; omega
    · intro i h1 h2
      rw [List.length_map, Array.length_toList] at h2
      rw [List.getElem_take, Array.getElem_toList, List.getElem_map, Array.getElem_toList]
      simp only [Go.Sort.putCells, Array.getElem_mapIdx]
      rw [if_pos ⟨Nat.zero_le _, by omega⟩, Nat.sub_zero, getElem!_pos d i h2]
  · rw [hheap, Array.getElem?_append_left (by rw [hsz]; exact hk), Array.getElem?_modify, if_neg (fun e => hne (by rw [e]))]
def idxL (s : List Nat) : List Int := s.map fun (i : Nat) => (i : Int)
theorem fins_range (C : Nat) : (finsL C).toList.map encF = ints (idxL (List.range C)) := by
  apply List.ext_getElem
  · simp [finsL, ints, idxL]
  · intro i h1 h2; simp [finsL, ints, idxL, encF]
theorem map_encF {C : Nat} (d : Array (Fin C)) : d.toList.map encF = ints (idxL (d.toList.map (·.val))) := by
  simp only [ints, idxL, List.map_map]; rfl
set_option maxHeartbeats 1000000 in
theorem insertion_any (base : Nat) (g cap : Nat) (v : Value) (c : List Int) (q : Nat) (w : World) (h : w.ownsRow base 3 1 (.slice (some ⟨g, 0, none⟩) c.length cap) c.length (ints (idxL (List.range c.length)))) (hb : base ≤ w.heap.size) (hc1 : 1 ≤ c.length) (hc5 : c.length ≤ 5)
    (hr : ∀ w', Below base w w' → InRow w' v c ∧ w'.cell? ⟨q, 0, none⟩ = some v) :
    Calls Tryz.prog 130 #[.slice (some ⟨g, 0, none⟩) c.length cap, .int .i64 0, .int .i64 c.length, .func (.func 71) #[] #[.pointer (some ⟨q, 0, none⟩)]] w fun e w' =>
      e = .returned (.tuple #[]) ∧ w'.ownsRow base 3 1 (.slice (some ⟨g, 0, none⟩) c.length cap) c.length (ints (idxL (sortK c))) ∧ Below base w w' := by
  haveI : Inhabited (Fin c.length) := ⟨⟨0, hc1⟩⟩
  obtain ⟨g', cap', he, hbg, hg, hcc, hm, hcell, hfr⟩ := own_some h (by omega)
  cases he
  have eg : ∀ args w, (callFunc 71 args).run Tryz.prog w = .ok (.enter 71 args) w := enters_of Tryz.func71 (by kernel_rfl) rfl
  let cf : Fin c.length → Fin c.length → Int := fun x y => cmpI (c.getD y.val 0) (c.getD x.val 0)
  have hsz : (finsL c.length).size = c.length := by simp [finsL]
  have hcmp : CmpReads Tryz.prog 71 #[.pointer (some ⟨q, 0, none⟩)] encF cf g 0 (finsL c.length).size w := fun m os dk hdk x y => by
    obtain ⟨k1, k2⟩ := own_sortedF dk m os h (by rw [hdk, hsz])
    obtain ⟨r1, r2⟩ := hr _ ((Below.refl base w).grown k2 hb (fun k hk => by cases hk; exact hbg))
    exact greedyCmp_any v c x.val y.val q _ r1 r2 x.isLt y.isLt
  have hH : Go.Sort.Holds encF w g 0 (finsL c.length) := fun j hj => by
    have hj' : j < c.length := by rw [← hsz]; exact hj
    rw [Nat.zero_add]
    refine ⟨?_, hfr j⟩
    rw [hcell j hj', ints_at _ j (by simp [idxL]; exact hj'), getElem!_pos (finsL c.length) j hj]
    simp [idxL, finsL, encF]
  have hcon := Tryz.insertionSortCmpFunc_one encF (fun _ => rfl) cf 71 #[.pointer (some ⟨q, 0, none⟩)] g 0 cap 0 c.length (finsL c.length) w eg hcmp hH (Nat.zero_le _) (by rw [hsz]; exact Nat.le_refl _) (by rw [hsz]; omega)
  rw [hsz] at hcon
  refine hcon.mono ?_
  rintro e w' ⟨rfl, m, rfl⟩
  have hins := insertion_top (c := c) (by omega) (ltOf cf) (fun x y => by
    show decide (cmpI (c.getD y.val 0) (c.getD x.val 0) < 0) = _
    simp only [cmpI_neg])
  have hsr : (Go.Sort.insertionSort (ltOf cf) (finsL c.length) 0 c.length).size = c.length := by
    have := congrArg List.length hins
    rw [sortK_len] at this; simpa using this
  obtain ⟨k1, k2⟩ := own_sortedF (Go.Sort.insertionSort (ltOf cf) (finsL c.length) 0 c.length) m #[] h hsr
  rw [sortWorld_none] at k1 k2
  rw [map_encF, hins] at k1
  exact ⟨rfl, k1, (Below.refl base w).grown k2 hb (fun k hk => by cases hk; exact hbg)⟩
set_option maxHeartbeats 1000000 in
theorem stableCmp_any (base : Nat) (g cap : Nat) (v : Value) (c : List Int) (q : Nat) (w : World) (h : w.ownsRow base 3 1 (.slice (some ⟨g, 0, none⟩) c.length cap) c.length (ints (idxL (List.range c.length)))) (hb : base ≤ w.heap.size) (hc1 : 1 ≤ c.length) (hc5 : c.length ≤ 5)
    (hr : ∀ w', Below base w w' → InRow w' v c ∧ w'.cell? ⟨q, 0, none⟩ = some v) :
    Calls Tryz.prog 111 #[.slice (some ⟨g, 0, none⟩) c.length cap, .int .i64 c.length, .func (.func 71) #[] #[.pointer (some ⟨q, 0, none⟩)]] w fun e w' =>
      e = .returned (.tuple #[]) ∧ w'.ownsRow base 3 1 (.slice (some ⟨g, 0, none⟩) c.length cap) c.length (ints (idxL (sortK c))) ∧ Below base w w' := by
  have HI := hide (insertion_any base g cap v c q w h hb hc1 hc5 hr)
  obtain ⟨C, hC⟩ : ∃ C, C = c.length := ⟨_, rfl⟩
  rw [← hC] at HI hc1 hc5 ⊢
  clear h hr hC
  go_enter Tryz.func111, Tryz.ntmps111
  go_wp2
  go_loop [7, 8] (fun a b => a = .int .i64 0 ∧ b = .int .i64 20) (fun _ _ => 0)
  case atStart => exact ⟨rfl, rfl⟩
  case round =>
    obtain ⟨rfl, rfl⟩ := hrel
    go_wp2_with (go_at_call 130; refine HI.out.mono ?_; rintro e w9 ⟨rfl, ho, hb⟩; have HO := hide ho; have HB := hide hb; clear ho hb)
    go_loop [6, 7, 8] (fun z a b => z = .int .i64 20 ∧ a = .int .i64 0 ∧ b = .int .i64 20) (fun _ _ _ => 0)
    case atStart => exact ⟨rfl, rfl, rfl⟩
    case round =>
      obtain ⟨rfl, rfl, rfl⟩ := hrel
      go_wp2
      go_end0
      exact ⟨rfl, HO.out, HB.out⟩
set_option maxHeartbeats 1000000 in
theorem stable_any (base : Nat) (g cap : Nat) (v : Value) (c : List Int) (q : Nat) (w : World) (h : w.ownsRow base 3 1 (.slice (some ⟨g, 0, none⟩) c.length cap) c.length (ints (idxL (List.range c.length)))) (hb : base ≤ w.heap.size) (hc1 : 1 ≤ c.length) (hc5 : c.length ≤ 5)
    (hr : ∀ w', Below base w w' → InRow w' v c ∧ w'.cell? ⟨q, 0, none⟩ = some v) :
    Calls Tryz.prog 70 #[.slice (some ⟨g, 0, none⟩) c.length cap, .func (.func 71) #[] #[.pointer (some ⟨q, 0, none⟩)]] w fun e w' =>
      e = .returned (.tuple #[]) ∧ w'.ownsRow base 3 1 (.slice (some ⟨g, 0, none⟩) c.length cap) c.length (ints (idxL (sortK c))) ∧ Below base w w' := by
  have HI := hide (stableCmp_any base g cap v c q w h hb hc1 hc5 hr)
  obtain ⟨C, hC⟩ : ∃ C, C = c.length := ⟨_, rfl⟩
  rw [← hC] at HI hc1 hc5 ⊢
  clear h hr hC
  go_enter Tryz.func70, Tryz.ntmps70
  go_wp2_with (go_at_call 111; refine HI.out.mono ?_; rintro e w9 ⟨rfl, ho, hb⟩; have HO := hide ho; have HB := hide hb; clear ho hb)
  go_end0
  exact ⟨rfl, HO.out, HB.out⟩
end Go.Proofs.YtpfaaglaeholbaaGreat
/-
  greedyRow of the program.
-/
namespace Go.Proofs.YtpfaaglaeholbaaGreat
open Go.RowKit Go.Shelf

theorem idx_range (C : Nat) : (tabL C fun k => ((k : Int) + 1) - 1) = idxL (List.range C) := by
  apply List.ext_getElem
  · simp [tabL, idxL]
  · intro i h1 h2
    rw [tabL_at]; simp [idxL]
theorem enters_before : ∀ args w, (callFunc 69 args).run Tryz.prog w = .ok (.enter 69 args) w := enters_of Tryz.func69 (by kernel_rfl) rfl
theorem columns_any (C : Nat) (w : World) (h : 1 ≤ C ∧ C ≤ 5) : Calls Tryz.prog 68 #[.int .i64 C, .func (.func 69) #[] #[]] w (IntsRes (idxL (List.range C)) w) := by
  have := collectG_any C 69 #[] (fun k => k - 1) w enters_before h (fun k w' h1 h2 _ => before_any k w' (by omega))
  rw [← idx_range]; exact this
set_option maxHeartbeats 2000000 in
theorem greedyRow_any (vr vl : Value) (r c : List Int) (s : Nat) (w : World) (hr : InRow w vr r) (hc : InRow w vl c) (hC : 1 ≤ c.length ∧ c.length ≤ 5) (hr0 : 0 < r.length) (h0 : r[0] = s) (hs : s ≤ c.length) :
    Calls Tryz.prog 32 #[vr, vl] w (IntsRes (topRow c s) w) := by
  have hbox := (Below.refl w.heap.size w).alloc (Nat.le_refl _) (.cells #[vl] 25)
  have HBX := hide hbox
  have HCX := hide (show (w.alloc (.cells #[vl] 25)).cell? ⟨w.heap.size, 0, none⟩ = some vl by simp [World.cell?_alloc_new])
  have HI := hide (inRow_below hc hbox)
  have HSZ := hide (show (w.alloc (.cells #[vl] 25)).heap.size = w.heap.size + 1 by simp)
  obtain ⟨ar, cr, rfl, hmr, hpr⟩ := hr
  obtain ⟨gr, or', rfl, hgr, hcr⟩ := hpr.resolve_left (by omega)
  have HR0 := hide (hcr 0 hr0)
  rw [h0, Nat.add_zero] at HR0
  have HGR := hide hgr
  obtain ⟨al, cl, rfl, hml, hpl⟩ := hc
  unfold maxLen at hmr hml
  obtain ⟨R, hR⟩ : ∃ R, R = r.length := ⟨_, rfl⟩
  rw [← hR] at hmr hr0 ⊢
  obtain ⟨C, hCC⟩ : ∃ C, C = c.length := ⟨_, rfl⟩
  have HCL := hide hCC
  rw [← hCC] at hC hs hml HI HCX HBX HSZ ⊢
  have HKL : Hid ((sortK c).length = C) := hide (by rw [sortK_len, hCC])
  obtain ⟨hC1, hC2⟩ := hC
  clear hbox hcr hpl hpr hR hCC h0 hgr
  go_enter Tryz.func32, Tryz.ntmps32
  go_wp2_with fail
  generalize hW : w.alloc (.cells #[Value.slice al C cl] 25) = W1 at HSZ HBX HCX HI ⊢
  clear hW
  refine (columns_any C _ ⟨hC1, hC2⟩).mono ?_
  rintro e w2 ⟨v2, rfl, ho, hb⟩
  rw [show (idxL (List.range C)).length = C by simp [idxL]] at ho
  obtain ⟨g2, c2, rfl, hbg2, hg2, hcc2, hm2, -, -⟩ := own_some ho hC1
  unfold maxLen at hm2
  have HQ := hide (fun (w' : World) (hw : Below W1.heap.size w2 w') => (⟨inRow_below HI.out (hb.trans hw), below_cell (hb.trans hw) (by rw [HSZ.out]; omega) HCX.out⟩ : InRow w' (.slice al C cl) c ∧ w'.cell? ⟨w.heap.size, 0, none⟩ = some (.slice al C cl)))
  have hx2 := (HQ.out w2 (Below.refl _ _)).2
  have hsrt := stable_any W1.heap.size g2 c2 (.slice al C cl) c w.heap.size w2 (by rw [← HCL.out]; exact ho) hb.size (by rw [← HCL.out]; exact hC1) (by rw [← HCL.out]; exact hC2) HQ.out
  rw [← HCL.out] at hsrt
  have HSRT := hide hsrt
  have HB2 := hide hb
  clear ho hb hsrt hbg2 hg2
  go_wp2_with fail
  refine HSRT.out.mono ?_
  rintro e w3 ⟨rfl, ho, hb⟩
  have HO3 := hide ho; have HB3 := hide (HB2.out.trans hb); have hx3 := (HQ.out w3 hb).2; have hs3 := HB3.out.size
  clear ho hb hx2 HSRT
  have HS3 := hide (show w.heap.size ≤ w3.heap.size by have := HSZ.out; omega)
  go_wp2_with (at_make; refine wpList_new w3.heap.size C (.int .i64 0) rfl _ _ rfl Tryz.underlying25 Tryz.infoInt rfl (by decide) rfl rfl (by omega) (Nat.le_refl _) ?_; intro w4 hown hb hg; have HO4 := hide hown; have HOC := hide (own_below HO3.out hb); have HB4 := hide hb; have hr4 := below_cell ((HBX.out.trans (HB3.out.mono HBX.out.size)).trans (hb.mono HS3.out)) HGR.out HR0.out; clear hown hb hg)
  have HCOL : Hid (∀ w', Below w3.heap.size w4 w' → ∀ k, (h : k < (sortK c).length) → w'.cell? ⟨g2, k, none⟩ = some (.int .i64 ((sortK c)[k] : Nat))) := hide fun w' hb k h => by
    have hk : k < C := by rw [HKL.out] at h; exact h
    obtain ⟨g', cap', he, -, hg', -, -, hcell, -⟩ := own_some HO3.out (by omega)
    cases he
    rw [(HB4.out.trans hb).cell (p := ⟨g2, k, none⟩) hg', hcell k hk, ints_at _ k (by simp [idxL]; exact h)]
    simp [idxL]
  clear HOC HO3 hx3 hr4
  go_loopw [24] (fun i w' => ∃ k : Nat, k ≤ s ∧ i = .int .i64 k ∧ w'.ownsRow w3.heap.size 3 1 (.slice (some ⟨w3.heap.size, 0, none⟩) C C) C (ints (tabL C (topF c k))) ∧ Below w3.heap.size w4 w') (fun i _ => s - (intOf i).toNat)
  case atStart => exact ⟨0, Nat.zero_le _, rfl, by rw [tabL_zero] at HO4; rw [show tabL C (topF c 0) = tabL C (fun _ => 0) from tabL_congr fun i _ => topF_zero c i]; exact HO4.out, Below.refl _ _⟩
  case round =>
    clear HO4
    obtain ⟨k, hk, rfl, hown, hb⟩ := hrel
    have HO := hide hown; have HB := hide hb
    clear hown hb
    by_cases hlt : k < s
    · have hkl : k < (sortK c).length := by rw [HKL.out]; omega
      have hcol := HCOL.out wr HB.out k hkl
      have hxC : (sortK c)[k] < C := by rw [HCL.out]; exact sortK_mem.1 (List.getElem_mem hkl)
      have HNX := hide (topF_next hkl)
      have HSUC := hide (fun x => topF_succ hkl x)
      obtain ⟨x, hx⟩ : ∃ x, x = (sortK c)[k] := ⟨_, rfl⟩
      rw [← hx] at hcol hxC HNX HSUC
      have hc1 := cell_held HO.out hxC
      rw [tabL_held hxC, HNX.out] at hc1
      have hf := HO.out.frozenAt x
      have HS := HO.out.stored x (.int .i64 1)
      rw [ints_set, tabL_set] at HS
      rw [show (tabL C fun t => if t = x then 1 else topF c k t) = tabL C (topF c (k + 1)) from tabL_congr fun i _ => (HSUC.out i).symm] at HS
      have HS := hide HS
      clear hx
      go_wp2
      go_roundw
      case rel => exact ⟨k + 1, by omega, by go_num, HS.out.1, HB.out.setCell (Nat.le_refl _) _⟩
      case measure => simp [intOf]; omega
    · obtain rfl : k = s := by omega
      go_wp2
      go_ret
      refine ⟨_, rfl, ?_, ?_⟩
      · rw [topRow_len, ← HCL.out, topRow, ← HCL.out]; exact own_base HO.out HS3.out
      · exact (HBX.out.trans (HB3.out.mono HBX.out.size)).trans ((HB4.out.trans HB.out).mono HS3.out)
end Go.Proofs.YtpfaaglaeholbaaGreat
/-
  BuildImage of the program.
-/
namespace Go.Proofs.YtpfaaglaeholbaaGreat
open Go.RowKit Go.Shelf

/-- What holds while the image is constructed. -/
def InvG (r c : List Int) : Prop := r.length ≤ 5 ∧ (1 ≤ c.length ∧ c.length ≤ 5) ∧ (∀ x ∈ r, 0 ≤ x ∧ x ≤ c.length) ∧ Mid100 (5 - r.length) c
theorem invG_start {r c : List Int} (h : existsOf r c = true) : InvG r c := by
  have hs := existsOf_sums h
  obtain ⟨hr, hc, hrb, -, -⟩ := sumsOk_yes hs
  refine ⟨hr.2, hc, fun x hx => ?_, mid_mono (mid_start hs) (by omega)⟩
  obtain ⟨k, hk, rfl⟩ := List.getElem_of_mem hx
  exact noBad_at hrb hk
theorem choice_greedy : Choice 32 greedyCh InvG where
  enters := enters_of Tryz.func32 (by kernel_rfl) rfl
  calls a r c vr vc w hI hr hc := by
    obtain ⟨h1, h2, h3, -⟩ := hI
    have ha := h3 a List.mem_cons_self
    refine greedyRow_any vr vc (a :: r) c a.toNat w hr.1 hc h2 (by simp) (by simp; omega) (by omega)
  next a r c hI := by
    obtain ⟨h1, h2, h3, h4⟩ := hI
    rw [List.length_cons] at h1 h4
    have hl : (greedyCh (a :: r) c).length = c.length := topRow_len _ _
    refine ⟨by omega, h2.2, hl, ⟨by omega, by rw [subL_len]; exact h2, fun x hx => by rw [subL_len]; exact h3 x (List.mem_cons_of_mem _ hx), ?_⟩, fun x hx => by have := h4.2 x hx; omega, fun x hx => ?_⟩
    · exact mid_mono (mid_sub (n := a.toNat) h4) (by omega)
    · show -1000 ≤ (topRow c a.toNat).getD x 0 ∧ (topRow c a.toNat).getD x 0 ≤ 1000
      rw [topRow, tabL_getD hx]
      rcases top01 c a.toNat x with e | e <;> rw [e] <;> omega
set_option maxHeartbeats 400000 in
theorem implBuild_any (va vb : Value) (r c : List Int) (w : World) (ha : RowC w va r) (hb : RowC w vb c) :
    Calls Tryz.prog 9 #[va, vb] w (MatRes2 (if existsOf r c = true then imgL greedyCh r c else []) (existsOf r c) w) := by
  have HA := hide ha; have HB := hide hb; have HA1 := hide ha.1; have HB1 := hide hb.1
  cases h : existsOf r c with
  | false =>
    rw [if_neg (by decide)]
    have H := hide h
    clear ha hb h
    go_enter Tryz.func9, Tryz.ntmps9
    go_wp2_with ((with_reducible refine (implExists_any va vb r c _ HA1.out HB1.out).mono ?_); rw [H.out]; rintro e w1 ⟨rfl, b1⟩; have B1 := hide b1; clear b1)
    go_ret2
    exact matRes2_nil B1.out
  | true =>
    rw [if_pos rfl]
    have H := hide h
    have HI := hide (invG_start h)
    clear ha hb h
    go_enter Tryz.func9, Tryz.ntmps9
    go_wp2_with (first | ((with_reducible refine (implExists_any va vb r c _ HA1.out HB1.out).mono ?_); rw [H.out]; rintro e w1 ⟨rfl, b1⟩; have B1 := hide b1; clear b1) | (go_at_call 31; refine (imageBy_any 32 greedyCh InvG choice_greedy r c va vb _ HI.out (rowC_below HA.out B1.out) (inRow_below HB1.out B1.out)).mono ?_; rintro e w2 ⟨v, rfl, ho, hb⟩; have HO := hide (ownMat_mono ho B1.out.size (Nat.le_refl _)); have B2 := hide (B1.out.trans (hb.mono B1.out.size)); clear ho hb))
    go_ret2
    exact ⟨_, rfl, HO.out, B2.out⟩
theorem imgL_rows (ch : List Int → List Int → List Int) (n : Nat) (hch : ∀ r c, c.length = n → (ch r c).length = n) : ∀ (r c : List Int), c.length = n → ∀ q ∈ imgL ch r c, q.length = n
  | [], _, _, q, hq => by simp [imgL] at hq
  | a :: r, c, hc, q, hq => by
    rw [imgL, List.mem_cons] at hq
    rcases hq with rfl | hq
    · exact hch _ _ hc
    · exact imgL_rows ch n hch r _ (by rw [subL_len]; exact hc) q hq
end Go.Proofs.YtpfaaglaeholbaaGreat
/-
  The greedy construction: what is chosen can be continued; the image that is built has the sums.
-/
namespace Go.Proofs.YtpfaaglaeholbaaGreat

theorem S_gt {n : Nat} {f g : Nat → Int} (h : Mx.S n g < Mx.S n f) : ∃ i, i < n ∧ g i < f i := by
  apply Classical.byContradiction
  intro hn
  have : Mx.S n f ≤ Mx.S n g := Mx.S_le n fun i hi => by
    apply Classical.byContradiction
    intro h2
    exact hn ⟨i, hi, by omega⟩
  omega
theorem S_upd {n : Nat} (f : Nat → Int) {k : Nat} (hk : k < n) (v : Int) : Mx.S n (fun i => if i = k then v else f i) = Mx.S n f + (v - f k) := by
  have h1 : Mx.S n (fun i => if i = k then v else f i) = Mx.S n fun i => f i + if i = k then v - f k else 0 := Mx.S_congr n fun i _ => by
    by_cases e : i = k
    · subst e; simp; omega
    · simp [e]
  rw [h1, Mx.S_add, Mx.S_pick hk]
/-- The greatest go first. -/
theorem top_ge {c : List Int} {n i j : Nat} (hi : i < c.length) (hj : j < c.length) (h8 : c.length ≤ 8) (h1 : topF c n i = 1) (h0 : topF c n j = 0) : c.getD j 0 ≤ c.getD i 0 := by
  have hmi : i ∈ (sortK c).take n := by
    unfold topF at h1
    by_cases e : i ∈ (sortK c).take n
    · exact e
    · rw [if_neg e] at h1; cases h1
  have hmj : j ∉ (sortK c).take n := by
    unfold topF at h0
    intro e
    rw [if_pos e] at h0; cases h0
  obtain ⟨a, ha, rfl⟩ := List.getElem_of_mem hmi
  obtain ⟨b, hb, rfl⟩ := List.getElem_of_mem (sortK_mem.2 hj)
  rw [List.getElem_take] at *
  rw [List.length_take] at ha
  have hab : a < b := by
    apply Classical.byContradiction
    intro h
    exact hmj (List.mem_iff_getElem.2 ⟨b, by rw [List.length_take]; omega, by rw [List.getElem_take]⟩)
  have := List.pairwise_iff_getElem.1 (sortK_desc c) a b (by omega) hb hab
  have hi8 : (sortK c)[a] < 8 := by omega
  have hj8 : (sortK c)[b] < 8 := by omega
  unfold keyF at this
  omega
theorem top_count {c : List Int} {n : Nat} (hn : n ≤ c.length) : Mx.S c.length (topF c n) = n := by
  induction n with
  | zero =>
    rw [Mx.S_congr (g := fun _ => 0) _ fun i _ => topF_zero c i, Mx.S_zero]; rfl
  | succ n ih =>
    have hk : n < (sortK c).length := by rw [sortK_len]; omega
    have hm : (sortK c)[n] < c.length := sortK_mem.1 (List.getElem_mem hk)
    rw [Mx.S_congr (g := fun x => if x = (sortK c)[n] then 1 else topF c n x) _ fun i _ => topF_succ hk i, S_upd _ hm, topF_next hk, ih (by omega)]
    omega
/-- How far a row is from the greedy one. -/
def farR (c : List Int) (n : Nat) (m : Nat → Int) : Int := Mx.S c.length fun x => if topF c n x = 1 ∧ m x = 0 then 1 else 0
theorem greedy_swap {a : Int} {r c : List Int} (h8 : c.length ≤ 8) {m : Nat → Nat → Int} (h : ImgF (a :: r) c m) {n : Nat} (ha : a = n) (hn : n ≤ c.length) (hd : 0 < farR c n (m 0)) :
    ∃ m', ImgF (a :: r) c m' ∧ farR c n (m' 0) < farR c n (m 0) := by
  have h0 := fun x (hx : x < c.length) => h.cell 0 x (Nat.succ_pos _) hx
  -- a column that is wanted and not there
  obtain ⟨i, hi, hi1⟩ : ∃ i, i < c.length ∧ (0 : Int) < if topF c n i = 1 ∧ m 0 i = 0 then 1 else 0 := S_gt (f := fun x => if topF c n x = 1 ∧ m 0 x = 0 then 1 else 0) (g := fun _ => 0) (by rw [Mx.S_zero]; exact hd)
  have hi2 : topF c n i = 1 ∧ m 0 i = 0 := by
    apply Classical.byContradiction
    intro e
    rw [if_neg e] at hi1; omega
  -- and one that is there and not wanted
  have hrow : Mx.S c.length (m 0) = n := by have := h.row 0 (Nat.succ_pos _); rw [this]; exact ha
  obtain ⟨j, hj, hj2⟩ : ∃ j, j < c.length ∧ topF c n j = 0 ∧ m 0 j = 1 := by
    apply Classical.byContradiction
    intro hno
    have hle : ∀ x, x < c.length → m 0 x ≤ topF c n x := fun x hx => by
      rcases h0 x hx with e | e <;> rcases top01 c n x with e2 | e2 <;> try omega
      exact absurd ⟨x, hx, e2, e⟩ hno
    have hlt : Mx.S c.length (m 0) < Mx.S c.length (topF c n) := by
      have h1 := Mx.S_le (f := fun x => m 0 x + if x = i then 1 else 0) (g := topF c n) c.length fun x hx => by
        by_cases e : x = i
        · subst e; simp; omega
        · simp [e]; exact hle x hx
      rw [Mx.S_add, Mx.S_pick hi] at h1
      omega
    rw [hrow, top_count hn] at hlt
    omega
  have hij : i ≠ j := fun e => by rw [e] at hi2; omega
  have hge := top_ge hi hj h8 hi2.1 hj2.1
  -- a row below that has i and not j
  have hci := h.col i hi; have hcj := h.col j hj
  rw [List.length_cons] at hci hcj
  obtain ⟨y, hy, hy1⟩ : ∃ y, y < r.length + 1 ∧ m y j < m y i ∧ y ≠ 0 := by
    apply Classical.byContradiction
    intro hno
    have hle := Mx.S_le (f := fun y => m y i + if y = 0 then 1 else 0) (g := fun y => m y j) (r.length + 1) fun y hy => by
      by_cases e : y = 0
      · subst e; simp; omega
      · simp only [e, if_false]
        apply Classical.byContradiction
        intro h2
        exact hno ⟨y, hy, by omega, e⟩
    rw [Mx.S_add, Mx.S_pick (Nat.succ_pos _), hci, hcj] at hle
    omega
  have hyi := h.cell y i (by simpa using hy) hi
  have hyj := h.cell y j (by simpa using hy) hj
  have hyi1 : m y i = 1 := by omega
  have hyj0 : m y j = 0 := by omega
  refine ⟨fun p q => if q = i then (if p = y then 0 else if p = 0 then 1 else m p q) else if q = j then (if p = y then 1 else if p = 0 then 0 else m p q) else m p q, ⟨fun p q hp hq => ?_, fun p hp => ?_, fun q hq => ?_⟩, ?_⟩
  · have := h.cell p q hp hq
    repeat' split
    all_goals omega
  · have h1 := h.row p hp
    by_cases e0 : p = 0
    · subst e0
      have e : Mx.S c.length (fun q => if q = i then (if (0 : Nat) = y then 0 else if (0 : Nat) = 0 then 1 else m 0 q) else if q = j then (if (0 : Nat) = y then 1 else if (0 : Nat) = 0 then 0 else m 0 q) else m 0 q) = Mx.S c.length fun q => if q = i then 1 else if q = j then 0 else m 0 q := Mx.S_congr _ fun q _ => by simp [Ne.symm hy1.2]
      rw [e, S_upd (fun q => if q = j then 0 else m 0 q) hi, S_upd (m 0) hj]
      simp [hij, hi2.2, hj2.2]; omega
    · by_cases ey : p = y
      · subst ey
        have e : Mx.S c.length (fun q => if q = i then (if p = p then 0 else if p = 0 then 1 else m p q) else if q = j then (if p = p then 1 else if p = 0 then 0 else m p q) else m p q) = Mx.S c.length fun q => if q = i then 0 else if q = j then 1 else m p q := Mx.S_congr _ fun q _ => by simp
        rw [e, S_upd (fun q => if q = j then 1 else m p q) hi, S_upd (m p) hj, h1]
        simp [hij, hyi1, hyj0]; omega
      · rw [← h1]
        exact Mx.S_congr _ fun q _ => by simp [e0, ey]
  · have h1 := h.col q hq
    by_cases ei : q = i
    · subst ei
      have e : Mx.S (a :: r).length (fun p => if q = q then (if p = y then 0 else if p = 0 then 1 else m p q) else if q = j then (if p = y then 1 else if p = 0 then 0 else m p q) else m p q) = Mx.S (a :: r).length fun p => if p = y then 0 else if p = 0 then 1 else m p q := Mx.S_congr _ fun p _ => by simp
      rw [e, S_upd (fun p => if p = 0 then 1 else m p q) (by simpa using hy), S_upd (fun p => m p q) (by simp), h1]
      simp [hy1.2, hyi1, hi2.2]; omega
    · by_cases ej : q = j
      · subst ej
        have e : Mx.S (a :: r).length (fun p => if q = i then (if p = y then 0 else if p = 0 then 1 else m p q) else if q = q then (if p = y then 1 else if p = 0 then 0 else m p q) else m p q) = Mx.S (a :: r).length fun p => if p = y then 1 else if p = 0 then 0 else m p q := Mx.S_congr _ fun p _ => by simp [ei]
        rw [e, S_upd (fun p => if p = 0 then 0 else m p q) (by simpa using hy), S_upd (fun p => m p q) (by simp), h1]
        simp [hy1.2, hyj0, hj2.2]; omega
      · rw [← h1]
        exact Mx.S_congr _ fun p _ => by simp [ei, ej]
  · have e : farR c n (fun q => if q = i then (if (0 : Nat) = y then 0 else if (0 : Nat) = 0 then 1 else m 0 q) else if q = j then (if (0 : Nat) = y then 1 else if (0 : Nat) = 0 then 0 else m 0 q) else m 0 q) = Mx.S c.length fun x => if x = i then 0 else if topF c n x = 1 ∧ m 0 x = 0 then 1 else 0 := Mx.S_congr _ fun x _ => by
      by_cases e1 : x = i
      · subst e1; simp [Ne.symm hy1.2]
      · by_cases e2 : x = j
        · subst e2; simp [e1, hj2.1, hj2.2]
        · simp [e1, e2]
    show farR c n (fun q => if q = i then (if (0 : Nat) = y then 0 else if (0 : Nat) = 0 then 1 else m 0 q) else if q = j then (if (0 : Nat) = y then 1 else if (0 : Nat) = 0 then 0 else m 0 q) else m 0 q) < farR c n (m 0)
    rw [e, S_upd (fun x => if topF c n x = 1 ∧ m 0 x = 0 then 1 else 0) hi]
    unfold farR
    simp [hi2]; omega
theorem greedy_all {a : Int} {r c : List Int} (h8 : c.length ≤ 8) {n : Nat} (ha : a = n) (hn : n ≤ c.length) : ∀ (d : Nat) (m : Nat → Nat → Int), ImgF (a :: r) c m → farR c n (m 0) ≤ d → ∃ m', ImgF (a :: r) c m' ∧ ∀ x, x < c.length → m' 0 x = topF c n x := by
  intro d
  induction d with
  | zero =>
    intro m h hd
    refine ⟨m, h, ?_⟩
    have hrow : Mx.S c.length (m 0) = n := by have := h.row 0 (Nat.succ_pos _); rw [this]; exact ha
    have hz : ∀ x, x < c.length → ¬ (topF c n x = 1 ∧ m 0 x = 0) := fun x hx e => by
      have := Mx.S_le (f := fun z => if z = x then 1 else 0) (g := fun z => if topF c n z = 1 ∧ m 0 z = 0 then 1 else 0) c.length fun z hz => by
        by_cases e2 : z = x
        · subst e2; simp [e]
        · simp [e2]; split <;> omega
      rw [Mx.S_pick hx] at this
      unfold farR at hd
      omega
    have hle : ∀ x, x < c.length → topF c n x ≤ m 0 x := fun x hx => by
      have h1 := hz x hx
      have h2 := h.cell 0 x (Nat.succ_pos _) hx
      have h3 := top01 c n x
      rcases h2 with e | e <;> rcases h3 with e2 | e2 <;> try omega
    intro x hx
    have e2 : Mx.S c.length (m 0) = Mx.S c.length (topF c n) := by rw [hrow, top_count hn]
    have h1 := Mx.S_le (f := fun z => topF c n z + if z = x then m 0 x - topF c n x else 0) (g := m 0) c.length fun z hz => by
      by_cases e : z = x
      · subst e; simp; omega
      · simp [e]; exact hle z hz
    rw [Mx.S_add, Mx.S_pick hx] at h1
    have := hle x hx
    omega
  | succ d ih =>
    intro m h hd
    by_cases h0 : 0 < farR c n (m 0)
    · obtain ⟨m', h1, h2⟩ := greedy_swap h8 h ha hn h0
      exact ih m' h1 (by omega)
    · exact ih m h (by omega)
end Go.Proofs.YtpfaaglaeholbaaGreat
/-
  The images that are built: they have the sums, and the least one is the first in order.
-/
namespace Go.Proofs.YtpfaaglaeholbaaGreat

/-- An image whose rows are chosen one after the other, out of what can stand there. -/
theorem imgL_img (ch : List Int → List Int → List Int) (hch : ∀ a r c, r.length ≤ 5 → (1 ≤ c.length ∧ c.length ≤ 5) → HasImg (a :: r) c → RowOf c.length a (ch (a :: r) c) ∧ HasImg r (subL c (ch (a :: r) c))) :
    ∀ (r c : List Int), r.length ≤ 5 → (1 ≤ c.length ∧ c.length ≤ 5) → HasImg r c → ∃ m, ImgF r c m ∧ imgL ch r c = listF r.length c.length m := by
  intro r
  induction r with
  | nil =>
    rintro c - - ⟨m, hm⟩
    exact ⟨m, hm, rfl⟩
  | cons a r ih =>
    intro c hr hc h
    rw [List.length_cons] at hr
    obtain ⟨h1, h2⟩ := hch a r c (by omega) hc h
    obtain ⟨m, hm, he⟩ := ih (subL c (ch (a :: r) c)) (by omega) (by rw [subL_len]; exact hc) h2
    have hself := rowOf_self h1
    refine ⟨fun y x => match y with | 0 => (ch (a :: r) c).getD x 0 | y + 1 => m y x, (img_cons a r c _).2 ⟨?_, ?_⟩, ?_⟩
    · rw [← hself]; exact h1
    · rw [← hself]; exact hm
    · rw [imgL, List.length_cons, listF_succ, ← hself, he, subL_len]
theorem S_le_len {n : Nat} {f : Nat → Int} (h : ∀ i, i < n → f i = 0 ∨ f i = 1) : 0 ≤ Mx.S n f ∧ Mx.S n f ≤ n := by
  induction n with
  | zero => exact ⟨Int.le_refl _, Int.le_refl _⟩
  | succ n ih =>
    have h1 := ih fun i hi => h i (Nat.lt_succ_of_lt hi)
    rw [Mx.S]
    rcases h n (Nat.lt_succ_self n) with e | e <;> rw [e] <;> omega
theorem greedy_ok (a : Int) (r c : List Int) (_ : r.length ≤ 5) (hc : 1 ≤ c.length ∧ c.length ≤ 5) (h : HasImg (a :: r) c) : RowOf c.length a (greedyCh (a :: r) c) ∧ HasImg r (subL c (greedyCh (a :: r) c)) := by
  obtain ⟨m, hm⟩ := h
  have h1 := S_le_len (n := c.length) (f := m 0) fun x hx => hm.cell 0 x (Nat.succ_pos _) hx
  have h2 := hm.row 0 (Nat.succ_pos _)
  have h3 : (a :: r).getD 0 0 = a := rfl
  rw [h2, h3] at h1
  obtain ⟨m', g1, g2⟩ := greedy_all (a := a) (r := r) (c := c) (by omega) (n := a.toNat) (by omega) (by omega) (farR c a.toNat (m 0)).toNat m hm (by omega)
  have e : tabL c.length (m' 0) = greedyCh (a :: r) c := tabL_congr fun x hx => g2 x hx
  obtain ⟨k1, k2⟩ := (img_cons a r c m').1 g1
  rw [e] at k1 k2
  exact ⟨k1, _, k2⟩
/-- The built image. -/
theorem built_img {r c : List Int} (hr : r.length ≤ 5) (hc : 1 ≤ c.length ∧ c.length ≤ 5) (h : HasImg r c) : ∃ m, ImgF r c m ∧ imgL greedyCh r c = listF r.length c.length m := imgL_img greedyCh greedy_ok r c hr hc h
theorem least_img {r c : List Int} (hr : r.length ≤ 5) (hc : 1 ≤ c.length ∧ c.length ≤ 5) (h : HasImg r c) : ∃ m, ImgF r c m ∧ imgL leastCh r c = listF r.length c.length m := imgL_img leastCh (fun _ _ _ h1 h2 h3 => leastCh_spec h1 h2 h3) r c hr hc h

/-- The order of rows, and of lists of rows. -/
def lessL : List Int → List Int → Bool
  | x :: a, y :: b => if x = y then lessL a b else decide (x < y)
  | _, _ => false
def beforeL : List (List Int) → List (List Int) → Bool
  | r :: a, s :: b => if r = s then beforeL a b else lessL r s
  | _, _ => false
theorem rowsLn_up : ∀ (n : Nat) (k : Int), (rowsLn n k).Pairwise fun u v => lessL v u = false
  | 0, k => by unfold rowsLn; split <;> simp
  | n + 1, k => by
    unfold rowsLn
    rw [List.pairwise_append]
    have hm : ∀ (z : Int) (l : List (List Int)), (l.Pairwise fun u v => lessL v u = false) → (l.map (z :: ·)).Pairwise fun u v => lessL v u = false := fun z l h => by
      rw [List.pairwise_map]
      exact h.imp fun h => by simp [lessL, h]
    refine ⟨?_, ?_, fun u hu v hv => ?_⟩
    · split
      · exact hm _ _ (rowsLn_up n k)
      · exact List.Pairwise.nil
    · split
      · exact hm _ _ (rowsLn_up n (k - 1))
      · exact List.Pairwise.nil
    · split at hu
      · split at hv
        · obtain ⟨u', -, rfl⟩ := List.mem_map.1 hu
          obtain ⟨v', -, rfl⟩ := List.mem_map.1 hv
          simp [lessL]
        · cases hv
      · cases hu
theorem least_first : ∀ (r c : List Int), r.length ≤ 5 → (1 ≤ c.length ∧ c.length ≤ 5) → HasImg r c → ∀ m ∈ allL r c, beforeL m (imgL leastCh r c) = false
  | [], c, _, _, _, m, hm => by
    rw [show m = [] by simpa [allL] using hm]; rfl
  | a :: r, c, hr, hc, h, m, hm => by
    rw [List.length_cons] at hr
    unfold allL at hm
    obtain ⟨row, hrow, hm⟩ := List.mem_flatMap.1 hm
    by_cases hb : restB r (subL c row) = true
    · rw [if_pos hb] at hm
      obtain ⟨m', hm', rfl⟩ := List.mem_map.1 hm
      have hmem : row ∈ firstRows a r c := List.mem_filter.2 ⟨hrow, hb⟩
      rw [imgL]
      unfold beforeL
      by_cases e : row = leastCh (a :: r) c
      · rw [if_pos e, ← e]
        exact least_first r (subL c row) (by omega) (by rw [subL_len]; exact hc) ((restB_iff (by omega) (by rw [subL_len]; exact hc)).1 hb) m' hm'
      · rw [if_neg e]
        have hup : (firstRows a r c).Pairwise fun u v => lessL v u = false := (rowsLn_up c.length a).filter _
        have hhd : leastCh (a :: r) c = (firstRows a r c).headD [] := rfl
        cases hl : firstRows a r c with
        | nil => rw [hl] at hmem; cases hmem
        | cons z l =>
          rw [hl] at hmem hup hhd
          have hz : leastCh (a :: r) c = z := hhd
          rw [hz] at e ⊢
          rcases List.mem_cons.1 hmem with e2 | h2
          · exact absurd e2 e
          · exact (List.pairwise_cons.1 hup).1 row h2
    · rw [if_neg hb] at hm; cases hm
end Go.Proofs.YtpfaaglaeholbaaGreat
/-
  The helpers of the laws that are no exact ones: same, alike.
-/
namespace Go.Proofs.YtpfaaglaeholbaaGreat
open Go.RowKit
set_option maxHeartbeats 1000000 in
theorem same_any (va vb : Value) (r s : List Int) (w : World) (ha : InRow w va r) (hb : InRow w vb s) :
    Calls Tryz.prog 38 #[va, vb] w fun e w' => e = .returned (.bool (r == s)) ∧ w = w' := by
  obtain ⟨a, ca, rfl, hma, hpa⟩ := ha
  obtain ⟨b, cb, rfl, hmb, hpb⟩ := hb
  unfold maxLen at hma hmb
  by_cases hlen : r.length = s.length
  · by_cases h0 : r.length = 0
    · have hr : r = [] := List.eq_nil_of_length_eq_zero h0
      have hs : s = [] := List.eq_nil_of_length_eq_zero (by omega)
      subst hr; subst hs
      clear hpa hpb hma hmb hlen h0
      go_enter Tryz.func38, Tryz.ntmps38
      go_wp2
      go_loop [14] (fun i => i = .int .i64 0) (fun _ => 0)
      case atStart => rfl
      case round =>
        obtain rfl := hrel
        go_wp2
        go_ret
        exact ⟨rfl, rfl⟩
    · obtain ⟨ga, oa, rfl, -, hca⟩ := hpa.resolve_left h0
      obtain ⟨gb, ob, rfl, -, hcb⟩ := hpb.resolve_left (by omega)
      have HA := hide hca; have HB := hide hcb; have HL := hide hlen
      obtain ⟨n, hn⟩ : ∃ n, n = r.length := ⟨_, rfl⟩
      have HN := hide hn
      have HM : Hid (s.length = n) := hide (by omega)
      rw [← hlen, ← hn]
      rw [← hn] at hma
      clear hpa hpb hca hcb h0 hmb hlen hn
      go_enter Tryz.func38, Tryz.ntmps38
      go_wp2
      go_loop [14] (fun i => ∃ k : Nat, k ≤ n ∧ i = .int .i64 k ∧ ∀ t, (h1 : t < r.length) → (h2 : t < s.length) → t < k → r[t] = s[t]) (fun i => n - (intOf i).toNat)
      case atStart => exact ⟨0, Nat.zero_le _, rfl, fun t _ _ h => absurd h (Nat.not_lt_zero _)⟩
      case round =>
        obtain ⟨k, hk, rfl, hall⟩ := hrel
        have HH := hide hall
        clear hall
        by_cases hlt : k < n
        · have hkr : k < r.length := by rw [← HN.out]; exact hlt
          have hks : k < s.length := by rw [HM.out]; exact hlt
          have hxa := HA.out k hkr
          have hxb := HB.out k hks
          have HNO := hide (fun h => sameRow_no2 k hkr hks h)
          have HST : Hid (r[k] = s[k] → ∀ t, (h1 : t < r.length) → (h2 : t < s.length) → t < k + 1 → r[t] = s[t]) := hide fun h t h1 h2 ht => by
            by_cases e : t = k
            · subst e; exact h
            · exact HH.out t h1 h2 (by omega)
          obtain ⟨x, hx⟩ : ∃ x, x = r[k] := ⟨_, rfl⟩
          obtain ⟨y, hy⟩ : ∃ y, y = s[k] := ⟨_, rfl⟩
          rw [← hx, ← hy] at HNO HST
          rw [← hx] at hxa
          rw [← hy] at hxb
          clear hx hy
          by_cases e : x = y
          · subst e
            have HST := hide (HST.out rfl)
            go_wp2
            go_round
            case rel => exact ⟨k + 1, by omega, by go_num, HST.out⟩
            case measure => simp [intOf]; omega
          · have HF := hide (HNO.out e)
            have hne : (x == y) = false := by simpa using e
            have hne2 : (x != y) = true := by simpa using e
            clear e
            go_wp2
            go_ret
            exact ⟨ret_bool HF.out.symm, rfl⟩
        · have HY := hide (sameRow_yes HL.out fun t h1 h2 => HH.out t h1 h2 (by have := HN.out; omega))
          go_wp2
          go_ret
          exact ⟨ret_bool HY.out.symm, rfl⟩
  · have HF := hide (sameRow_no hlen)
    obtain ⟨n, hn⟩ : ∃ n, n = r.length := ⟨_, rfl⟩
    obtain ⟨k, hk⟩ : ∃ k, k = s.length := ⟨_, rfl⟩
    rw [← hn, ← hk] at hlen ⊢
    rw [← hn] at hma
    rw [← hk] at hmb
    have hne : ((n : Int) == (k : Int)) = false := by simp; omega
    have hne2 : ((n : Int) != (k : Int)) = true := by simp; omega
    clear hpa hpb hn hk hlen
    go_enter Tryz.func38, Tryz.ntmps38
    go_wp2
    go_ret
    exact ⟨ret_bool HF.out.symm, rfl⟩


end Go.Proofs.YtpfaaglaeholbaaGreat
/-
  The laws' order of grids.
-/
namespace Go.Proofs.YtpfaaglaeholbaaGreat
open Go.RowKit
set_option maxRecDepth 100000

theorem drop_at {α : Type} {l : List α} {k : Nat} (h : k < l.length) : l.drop k = l[k] :: l.drop (k + 1) := List.drop_eq_getElem_cons h
theorem lessL_nil (b : List Int) : lessL [] b = false := by unfold lessL; rfl
theorem lessL_at {r s : List Int} {k : Nat} (hr : k < r.length) (hs : k < s.length) : lessL (r.drop k) (s.drop k) = if r[k] = s[k] then lessL (r.drop (k + 1)) (s.drop (k + 1)) else decide (r[k] < s[k]) := by
  rw [drop_at hr, drop_at hs, lessL]
theorem beforeL_at {r s : List (List Int)} {k : Nat} (hr : k < r.length) (hs : k < s.length) : beforeL (r.drop k) (s.drop k) = if r[k] = s[k] then beforeL (r.drop (k + 1)) (s.drop (k + 1)) else lessL r[k] s[k] := by
  rw [drop_at hr, drop_at hs, beforeL]
set_option maxHeartbeats 1000000 in
theorem less_any (va vb : Value) (r s : List Int) (w : World) (ha : InRow w va r) (hb : InRow w vb s) (hlen : r.length = s.length) (hn : 1 ≤ r.length ∧ r.length ≤ 5) :
    Calls Tryz.prog 39 #[va, vb] w fun e w' => e = .returned (.bool (lessL r s)) ∧ w = w' := by
  obtain ⟨a, ca, rfl, hma, hpa⟩ := ha
  obtain ⟨b, cb, rfl, hmb, hpb⟩ := hb
  unfold maxLen at hma hmb
  obtain ⟨ga, oa, rfl, -, hca⟩ := hpa.resolve_left (by omega)
  obtain ⟨gb, ob, rfl, -, hcb⟩ := hpb.resolve_left (by omega)
  have HA := hide hca; have HB := hide hcb
  have HAT := hide fun k (h1 : k < r.length) (h2 : k < s.length) => lessL_at h1 h2
  have HE : Hid (∀ k, r.length ≤ k → lessL (r.drop k) (s.drop k) = false) := hide fun k hk => by rw [List.drop_of_length_le hk]; exact lessL_nil _
  obtain ⟨n, hnn⟩ : ∃ n, n = r.length := ⟨_, rfl⟩
  have HN := hide hnn
  have HM : Hid (s.length = n) := hide (by omega)
  rw [← hlen, ← hnn]
  rw [← hnn] at hma hn
  clear hpa hpb hca hcb hmb hlen hnn
  go_enter Tryz.func39, Tryz.ntmps39
  go_wp2
  go_loop [9] (fun i => ∃ k : Nat, k ≤ n ∧ i = .int .i64 k ∧ lessL r s = lessL (r.drop k) (s.drop k)) (fun i => n - (intOf i).toNat)
  case atStart => exact ⟨0, Nat.zero_le _, rfl, by rw [List.drop_zero, List.drop_zero]⟩
  case round =>
    obtain ⟨k, hk, rfl, hall⟩ := hrel
    have HH := hide hall
    clear hall
    by_cases hlt : k < n
    · have hkr : k < r.length := by rw [← HN.out]; exact hlt
      have hks : k < s.length := by rw [HM.out]; exact hlt
      have hxa := HA.out k hkr
      have hxb := HB.out k hks
      have HST := hide (HAT.out k hkr hks)
      obtain ⟨x, hx⟩ : ∃ x, x = r[k] := ⟨_, rfl⟩
      obtain ⟨y, hy⟩ : ∃ y, y = s[k] := ⟨_, rfl⟩
      rw [← hx, ← hy] at HST
      rw [← hx] at hxa
      rw [← hy] at hxb
      have hltI : (k : Int) < (n : Int) := by omega
      clear hx hy
      by_cases e : x = y
      · subst e
        have HF := hide (HH.out.trans (HST.out.trans (if_pos rfl)))
        go_wp2
        go_round
        case rel => exact ⟨k + 1, by omega, by go_num, HF.out⟩
        case measure => simp [intOf]; omega
      · have HF := hide (HH.out.trans (HST.out.trans (if_neg e)))
        have hne2 : (x != y) = true := by simpa using e
        clear e
        go_wp2
        go_ret
        exact ⟨ret_bool HF.out.symm, rfl⟩
    · have HF := hide (HH.out.trans (HE.out k (by have := HN.out; omega)))
      go_wp2
      go_ret
      exact ⟨ret_bool HF.out.symm, rfl⟩
set_option maxHeartbeats 1000000 in
theorem before_any2 (va vb : Value) (m l : List (List Int)) (C : Nat) (w : World) (ha : InMat w va m) (hb : InMat w vb l) (hlen : m.length = l.length) (hn : 1 ≤ m.length ∧ m.length ≤ 5) (hC : 1 ≤ C ∧ C ≤ 5) (hmc : ∀ q ∈ m, q.length = C) (hlc : ∀ q ∈ l, q.length = C) :
    Calls Tryz.prog 12 #[va, vb] w fun e w' => e = .returned (.bool (beforeL m l)) ∧ w = w' := by
  obtain ⟨a, ca, rfl, hma, hpa⟩ := ha
  obtain ⟨b, cb, rfl, hmb, hpb⟩ := hb
  unfold maxLen at hma hmb
  obtain ⟨ga, oa, rfl, hga, hca⟩ := hpa.resolve_left (by omega)
  obtain ⟨gb, ob, rfl, hgb, hcb⟩ := hpb.resolve_left (by omega)
  have HA := hide hca; have HB := hide hcb
  have HAT := hide fun k (h1 : k < m.length) (h2 : k < l.length) => beforeL_at h1 h2
  have HE : Hid (∀ k, m.length ≤ k → beforeL (m.drop k) (l.drop k) = false) := hide fun k hk => by rw [List.drop_of_length_le hk]; unfold beforeL; rfl
  have HMC := hide hmc; have HLC := hide hlc
  obtain ⟨n, hnn⟩ : ∃ n, n = m.length := ⟨_, rfl⟩
  have HN := hide hnn
  have HM : Hid (l.length = n) := hide (by omega)
  rw [← hlen, ← hnn]
  rw [← hnn] at hma hn
  clear hpa hpb hca hcb hmb hlen hnn hmc hlc
  go_enter Tryz.func12, Tryz.ntmps12
  go_wp2
  go_loop [9] (fun i => ∃ k : Nat, k ≤ n ∧ i = .int .i64 k ∧ beforeL m l = beforeL (m.drop k) (l.drop k)) (fun i => n - (intOf i).toNat)
  case atStart => exact ⟨0, Nat.zero_le _, rfl, by rw [List.drop_zero, List.drop_zero]⟩
  case round =>
    obtain ⟨k, hk, rfl, hall⟩ := hrel
    have HH := hide hall
    clear hall
    by_cases hlt : k < n
    · have hkr : k < m.length := by rw [← HN.out]; exact hlt
      have hks : k < l.length := by rw [HM.out]; exact hlt
      obtain ⟨ua, hxa, hra⟩ := HA.out k hkr
      obtain ⟨ub, hxb, hrb⟩ := HB.out k hks
      have HST := hide (HAT.out k hkr hks)
      have hl1 := HMC.out _ (List.getElem_mem hkr)
      have hl2 := HLC.out _ (List.getElem_mem hks)
      obtain ⟨x, hx⟩ : ∃ x, x = m[k] := ⟨_, rfl⟩
      obtain ⟨y, hy⟩ : ∃ y, y = l[k] := ⟨_, rfl⟩
      rw [← hx, ← hy] at HST
      rw [← hx] at hra hl1
      rw [← hy] at hrb hl2
      have HRA := hide hra; have HRB := hide hrb
      have HLS := hide (less_any ua ub x y w hra hrb (by omega) (by omega))
      have hltI : (k : Int) < (n : Int) := by omega
      clear hx hy hra hrb hl1 hl2
      cases e : (x == y) with
      | true =>
        have HEE := hide e
        have HF := hide (HH.out.trans (HST.out.trans (if_pos (eq_of_beq e))))
        clear e
        go_wp2_with (go_at_call 38; refine (same_any _ _ _ _ _ HRA.out HRB.out).mono ?_; rw [HEE.out]; rintro e w9 ⟨rfl, rfl⟩)
        go_round
        case rel => exact ⟨k + 1, by omega, by go_num, HF.out⟩
        case measure => simp [intOf]; omega
      | false =>
        have HEE := hide e
        have HF := hide (HH.out.trans (HST.out.trans (if_neg (ne_of_beq_false e))))
        clear e
        go_wp2_with (first | (go_at_call 38; refine (same_any _ _ _ _ _ HRA.out HRB.out).mono ?_; rw [HEE.out]; rintro e w9 ⟨rfl, rfl⟩) | (go_at_call 39; refine HLS.out.mono ?_; rintro e w9 ⟨rfl, rfl⟩))
        go_ret
        exact ⟨ret_bool HF.out.symm, rfl⟩
    · have HF := hide (HH.out.trans (HE.out k (by have := HN.out; omega)))
      go_wp2
      go_ret
      exact ⟨ret_bool HF.out.symm, rfl⟩
end Go.Proofs.YtpfaaglaeholbaaGreat
/-
  The images that the laws draw: l02Draw, MakeImage, MakeSized.
-/
namespace Go.Proofs.YtpfaaglaeholbaaGreat
open Go.RowKit

theorem curAt_within {w w' : World} {B n : Nat} {a : Option Addr} (h : CurAt w B a n) (hb : w'.heap[B]? = w.heap[B]?) : CurAt w' B a n := by
  obtain ⟨c, i, k, h1, h2, h3⟩ := h
  exact ⟨c, i, k, by rw [hb]; exact h1, h2, h3⟩
theorem curAt_lt {w : World} {B n : Nat} {a : Option Addr} (h : CurAt w B a n) : B < w.heap.size := by
  obtain ⟨c, i, k, h1, -⟩ := h
  exact (Array.getElem?_eq_some_iff.1 h1).1
theorem curAt_below {w w' : World} {B n : Nat} {a : Option Addr} (h : CurAt w B a n) (hb : Below w.heap.size w w') : CurAt w' B a n := curAt_within h (hb.block B (curAt_lt h))
theorem ownMat_cur {w w' : World} {lo hi B : Nat} {v : Value} {m : List (List Int)} (h : OwnMat w lo hi v m) (hg : w.grownBy w' (some B)) (hB : B < lo) : OwnMat w' lo hi v m :=
  ownMat_within h (within_grown (lo := B) (hi := B + 1) hg fun k hk => by cases hk; exact ⟨Nat.le_refl _, Nat.lt_succ_self _⟩) (.inr hB)
theorem grown_undrew {w w' : World} {row : Option Nat} (h : w.drew.grownBy w' row) : w.grownBy w' row := ⟨h.os, h.tape, h.output, h.size, h.block⟩
theorem cells_kept {w w' : World} {B gv y gr x : Nat} {u z : Value} (h : w.drew.grownBy w' (some B)) (h1 : w.cell? ⟨gv, y, none⟩ = some u) (h2 : w.cell? ⟨gr, x, none⟩ = some z) (h3 : w.frozen? ⟨gr, x, none⟩ = false) (n1 : gv ≠ B) (n2 : gr ≠ B) :
    w'.cell? ⟨gv, y, none⟩ = some u ∧ w'.cell? ⟨gr, x, none⟩ = some z ∧ w'.frozen? ⟨gr, x, none⟩ = false := by
  have hg := grown_undrew h
  refine ⟨hg.cell h1 (by simpa using n1), hg.cell h2 (by simpa using n2), ?_⟩
  have hlt : gr < w.heap.size := World.block_lt_of_cell? w _ h2
  rw [World.frozen?_of_block (w := w) (a := ⟨gr, x, none⟩) (hg.block gr hlt (by simpa using n2))]; exact h3
theorem img_upd {R C : Nat} {f : Nat → Nat → Int} (h : Img R C f) (y x : Nat) {z : Int} (hz : z = 0 ∨ z = 1) : Img R C fun a b => if a = y ∧ b = x then z else f a b :=
  ⟨h.r1, h.r2, h.c1, h.c2, fun a b ha hb => by
    show (if a = y ∧ b = x then z else f a b) = 0 ∨ (if a = y ∧ b = x then z else f a b) = 1
    split
    · exact hz
    · exact h.cell a b ha hb⟩

theorem ownMat_apart {w : World} {lo hi g n c g' n' c' : Nat} {m : List (List Int)} (h : OwnMat w lo hi (.slice (some ⟨g, 0, none⟩) n c) m) (i : Nat) (h' : i < m.length) (hc : w.cell? ⟨g, i, none⟩ = some (.slice (some ⟨g', 0, none⟩) n' c')) : g ≠ g' := by
  obtain ⟨vs, ho, -, hr, -⟩ := h
  have hn : n = m.length := by
    rcases ho.2 with ⟨e, _⟩ | ⟨g2, cap, cur, e, _⟩
    · cases e
    · cases e; rfl
  subst hn
  have h1 := cell_held ho h'
  rw [hc, Option.some.injEq] at h1
  rcases own_types ho (hr i h').1 (by decide) with e | e
  · cases e
  · rw [← h1] at e
    simpa [Value.ownBlock] using e
/-- What the laws draw: some image; the cursor in its place; nothing below it touched. -/
def DrawnImg (w : World) (B : Nat) (a : Option Addr) (n : Nat) (e : Ending) (w' : World) : Prop :=
  ∃ (v : Value) (R C : Nat) (f : Nat → Nat → Int), e = .returned v ∧ Img R C f ∧ OwnMat w' w.heap.size w'.heap.size v (mkM R C f) ∧ CurAt w' B a n ∧ Below B w w'

/-- And it is of the size asked. -/
def DrawnMost (most : Nat) (w : World) (B : Nat) (a : Option Addr) (n : Nat) (e : Ending) (w' : World) : Prop :=
  ∃ (v : Value) (R C : Nat) (f : Nat → Nat → Int), e = .returned v ∧ Img R C f ∧ (R ≤ most ∧ C ≤ most) ∧ OwnMat w' w.heap.size w'.heap.size v (mkM R C f) ∧ CurAt w' B a n ∧ Below B w w'
set_option maxRecDepth 100000 in
set_option maxHeartbeats 1000000 in
theorem l02Draw_most (B n : Nat) (a : Option Addr) (most : Nat) (w : World) (base : Nat) (hm0 : 1 ≤ most) (hm1 : most ≤ 5) (hc : CurAt w B a n) (hin : InBytes w base a n) (hbase : base ≤ B) :
    Calls Tryz.prog 25 #[.pointer (some ⟨B, 0, none⟩), .int .i64 most] w (DrawnMost most w B a n) := by
  have HC := hide hc; have HI := hide hin
  have hBw := curAt_lt hc
  clear hc hin
  go_enter Tryz.func25, Tryz.ntmps25
  go_wp2_with fail
  refine (l01Below_any B n a most _ base (by omega) (by omega) HC.out HI.out hbase).mono ?_
  rintro e w1 ⟨x1, hx10, hx11, rfl, hc1, hg1⟩
  have HC1 := hide hc1; have HI1 := hide (inBytes_grown HI.out hg1 hbase); have HG1 := hide hg1
  clear hc1 hg1
  go_wp2_with fail
  refine (l01Below_any B n a most _ base (by omega) (by omega) HC1.out HI1.out hbase).mono ?_
  rintro e w2 ⟨x2, hx20, hx21, rfl, hc2, hg2⟩
  have HC2 := hide hc2; have HI2 := hide (inBytes_grown HI1.out hg2 hbase); have HG2 := hide (grown_trans HG1.out hg2)
  clear hc2 hg2
  obtain ⟨R, hR⟩ : ∃ R : Nat, 1 + x1 = R := ⟨(1 + x1).toNat, by omega⟩
  obtain ⟨C, hC⟩ : ∃ C : Nat, 1 + x2 = C := ⟨(1 + x2).toNat, by omega⟩
  have HMOST : Hid (R ≤ most ∧ C ≤ most) := hide (by omega)
  have hR5 : 1 ≤ R ∧ R ≤ 5 := by omega
  have hC5 : 1 ≤ C ∧ C ≤ 5 := by omega
  obtain rfl : x1 = R - 1 := by omega
  obtain rfl : x2 = C - 1 := by omega
  have k1 : 1 + ((R : Int) - 1) = R := by omega
  have k2 : 1 + ((C : Int) - 1) = C := by omega
  clear hR hC
  go_wp2_with fail
  refine (l02Empty_any R C _ hR5.2 hC5.2).mono ?_
  rintro e w3 ⟨v3, rfl, o3, b3⟩
  clear k1 k2
  obtain ⟨gv, cv, rfl⟩ := ownMat_some o3 (by rw [mkM_len]; omega)
  rw [mkM_len] at *
  have hs2 := HG2.out.size
  have B3 := hide ((grown_below HG2.out (fun k hk => by cases hk; exact Nat.le_refl B) (by omega) : Below B w w2).trans (b3.mono (by omega)))
  have C3 := hide (curAt_below HC2.out b3)
  have I3 := hide (inBytes_below HI2.out (b3.mono (by have := HI2.out.2.1; omega)))
  have O3 := hide (ownMat_mono o3 hs2 (Nat.le_refl _))
  have IM3 := hide (img_zero hR5 hC5)
  obtain ⟨hi, hhi⟩ : ∃ hi, hi = w3.heap.size := ⟨_, rfl⟩
  have hge : hi ≤ w3.heap.size := by omega
  rw [← hhi] at O3
  clear HG2 HC2 HI2 HC1 HI1 HG1 o3 b3 hhi
  go_wp2
  go_loopw [19] (fun i w' => ∃ (y : Nat) (f : Nat → Nat → Int), y ≤ R ∧ i = .int .i64 y ∧ Img R C f ∧ hi ≤ w'.heap.size ∧ OwnMat w' w.heap.size hi (.slice (some ⟨gv, 0, none⟩) R cv) (mkM R C f) ∧ CurAt w' B a n ∧ InBytes w' base a n ∧ Below B w w') (fun i _ => R - (intOf i).toNat)
  case atStart => exact ⟨0, zeroM, by omega, rfl, IM3.out, hge, O3.out, C3.out, I3.out, B3.out⟩
  case round =>
    clear B3 C3 I3 O3 IM3 hge
    obtain ⟨y, f, hy, rfl, him, hhi, hown, hcu, hib, hb⟩ := hrel
    have HM := hide him; have HO := hide hown; have HCu := hide hcu; have HIB := hide hib; have HB := hide hb
    clear him hown hcu hib hb
    by_cases hlt : y < R
    · have hyI : (y : Int) < R := by omega
      obtain ⟨g0, c0, hrow0, -⟩ := ownMat_cell HO.out y 0 hlt (by omega)
      go_wp2
      clear hrow0
      go_loopw [27] (fun i w' => ∃ (x : Nat) (f : Nat → Nat → Int), x ≤ C ∧ i = .int .i64 x ∧ Img R C f ∧ hi ≤ w'.heap.size ∧ OwnMat w' w.heap.size hi (.slice (some ⟨gv, 0, none⟩) R cv) (mkM R C f) ∧ CurAt w' B a n ∧ InBytes w' base a n ∧ Below B w w') (fun i _ => C - (intOf i).toNat)
      case atStart => exact ⟨0, f, by omega, rfl, HM.out, hhi, HO.out, HCu.out, HIB.out, HB.out⟩
      case round =>
        clear HM HO HCu HIB HB hhi f
        obtain ⟨x, f, hx, rfl, him, hhi, hown, hcu, hib, hb⟩ := hrel
        have HM := hide him; have HO := hide hown; have HCu := hide hcu; have HIB := hide hib; have HB := hide hb
        clear him hown hcu hib hb
        by_cases hlx : x < C
        · have hxI : (x : Int) < C := by omega
          obtain ⟨gr, cr, hrow, hcl, hfr, hlo, hgh, -⟩ := ownMat_cell HO.out y x hlt hlx
          have hgv : gv ≠ B := by
            obtain ⟨vs, hvs, -⟩ := HO.out
            have := (hvs.lt gv rfl).1; omega
          have HK : Hid (∀ w5, CurAt w5 B a n → wr.drew.grownBy w5 (some B) → w5.cell? ⟨gv, y, none⟩ = some (.slice (some ⟨gr, 0, none⟩) C cr) ∧ w5.cell? ⟨gr, x, none⟩ = some (.int .i64 (f y x)) ∧ w5.frozen? ⟨gr, x, none⟩ = false) := hide fun w5 hc hg => cells_kept hg hrow hcl hfr hgv (by omega)
          have hgg : gv ≠ gr := ownMat_apart HO.out y (by rw [mkM_len]; exact hlt) hrow
          have HCd : Hid (CurAt wr.drew B a n) := hide HCu.out
          have HId : Hid (InBytes wr.drew base a n) := hide HIB.out
          go_wp2
          go_region_held3 (fun w' => w'.cell? ⟨gv, y, none⟩ = some (.slice (some ⟨gr, 0, none⟩) C cr))
            (first | exact hrow | exact k1 | exact HKS.out)
            (first | (go_at_call 57; refine (l01Below_any B n a 2 _ base (by omega) (by omega) HCd.out HId.out hbase).mono ?_; rintro e w5 ⟨z, hz0, hz1, rfl, hc5, hg5⟩; obtain ⟨k1, k2, k3⟩ := HK.out w5 hc5 hg5; have HZ : Hid (z = 0 ∨ z = 1) := hide (by omega); have HKS : Hid ((w5.setCell ⟨gr, x, none⟩ (.int .i64 z)).cell? ⟨gv, y, none⟩ = some (.slice (some ⟨gr, 0, none⟩) C cr)) := hide (by rw [World.cell?_setCell_other _ _ _ _ (fun e => hgg (congrArg Addr.block e).symm)]; exact k1); replace hc5 := hide hc5; replace hg5 := hide hg5))
          go_wp2
          go_roundw
          case rel =>
            have hg := grown_undrew hg5.out
            have ho5 := ownMat_cur HO.out hg (by omega)
            obtain ⟨g7, c7, hrow7, -, -, -, -, hset⟩ := ownMat_cell ho5 y x hlt hlx
            rw [k1] at hrow7
            simp only [Option.some.injEq, Value.slice.injEq, Addr.mk.injEq] at hrow7
            obtain ⟨⟨rfl, -, -⟩, -, -⟩ := hrow7
            exact ⟨x + 1, _, by omega, by go_num, img_upd HM.out y x HZ.out, (by have := hg.size; simp [World.setCell]; omega), hset z, curAt_within hc5.out (heap_setCell_other _ _ _ _ (by show B ≠ gr; omega)), inBytes_below (inBytes_grown HIB.out hg hbase) ((Below.refl _ _).setCell (by show base ≤ gr; omega) _), (HB.out.trans (grown_below hg (fun k hk => by cases hk; exact Nat.le_refl _) (by have := curAt_lt HCu.out; omega))).setCell (by show B ≤ gr; omega) _⟩
          case measure => simp [intOf]; omega
        · obtain rfl : x = C := by omega
          go_wp2
          go_roundw
          case rel => exact ⟨y + 1, f, by omega, by go_num, HM.out, hhi, HO.out, HCu.out, HIB.out, HB.out⟩
          case measure => simp [intOf]; omega
    · obtain rfl : y = R := by omega
      go_wp2
      go_ret
      exact ⟨_, y, C, f, rfl, HM.out, HMOST.out, ownMat_mono HO.out (Nat.le_refl _) hhi, HCu.out, HB.out⟩

theorem l02Draw_any (B n : Nat) (a : Option Addr) (most : Nat) (w : World) (base : Nat) (hm0 : 1 ≤ most) (hm1 : most ≤ 5) (hc : CurAt w B a n) (hin : InBytes w base a n) (hbase : base ≤ B) :
    Calls Tryz.prog 25 #[.pointer (some ⟨B, 0, none⟩), .int .i64 most] w (DrawnImg w B a n) :=
  (l02Draw_most B n a most w base hm0 hm1 hc hin hbase).mono fun _ _ ⟨v, R, C, f, h1, h2, _, h3, h4, h5⟩ => ⟨v, R, C, f, h1, h2, h3, h4, h5⟩

/-- What the laws' makers answer: some image. -/
def MadeImg (w : World) (e : Ending) (w' : World) : Prop := ∃ (v : Value) (R C : Nat) (f : Nat → Nat → Int), e = .returned v ∧ Img R C f ∧ OwnMat w' w.heap.size w'.heap.size v (mkM R C f) ∧ Below w.heap.size w w'
set_option maxHeartbeats 400000 in
theorem makeImage_any (n c : Nat) (a : Option Addr) (m : Nat) (w : World) (base : Nat) (hin : InBytes w base a n) (hn : n ≤ 2000000) (hm : m ≤ 1000) :
    Calls Tryz.prog 6 #[.slice a n c, .int .i64 m, .int .i64 5] w (MadeImg w) := by
  have HI := hide hin
  clear hin
  go_enter Tryz.func6, Tryz.ntmps6
  go_wp2_with fail
  refine (l18New_any n c a m _ base HI.out hn hm).mono ?_
  rintro e w1 ⟨rfl, hc, hb, hlt⟩
  have HC := hide hc; have HB := hide hb; have hs1 := hb.size
  have HI1 := hide (inBytes_below HI.out (hb.mono HI.out.2.1))
  clear hc hb
  go_wp2_with fail
  refine (l02Draw_any _ n a 5 _ base (by omega) (by omega) HC.out HI1.out HI.out.2.1).mono ?_
  rintro e w2 ⟨v, R, C, f, rfl, him, ho, -, hb⟩
  have HIM := hide him; have HO := hide (ownMat_mono ho hs1 (Nat.le_refl _)); have HB2 := hide (HB.out.trans hb)
  clear him ho hb
  go_wp2
  go_ret
  exact ⟨v, R, C, f, rfl, HIM.out, HO.out, HB2.out⟩

/-- What MakeSized answers: an image of the size asked. -/
def SizedImg (R C : Nat) (w : World) (e : Ending) (w' : World) : Prop := ∃ (v : Value) (f : Nat → Nat → Int), e = .returned v ∧ Img R C f ∧ OwnMat w' w.heap.size w'.heap.size v (mkM R C f) ∧ Below w.heap.size w w'
end Go.Proofs.YtpfaaglaeholbaaGreat
