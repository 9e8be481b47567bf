/-
  greedyRow of the program: the columns by the library's stable sort.
-/
import Derived.Test.YtecfigjkcpbggaaTop
import Derived.Test.YtecfigjkcpbggaaSortF
import Derived.Test.YtecfigjkcpbggaaShSl
namespace Go.Proofs.Ytecfigjkcpbggaa
open Go.RowKit Go.Shelf

set_option maxHeartbeats 1000000 in
/-- collect at whatever function value that reads. -/
theorem collectG_any (n g : Nat) (cb : Array Value) (h : Int → Int) (w : World) (eg : ∀ args w, (callFunc g args).run Try.prog w = .ok (.enter g args) w) (hn : 1 ≤ n ∧ n ≤ 5)
    (hf : ∀ (k : Nat) (w' : World), 1 ≤ k → k ≤ n → Below w.heap.size w w' → Calls Try.prog g (#[.int .i64 k] ++ cb) w' fun e w'' => e = .returned (.int .i64 (h k)) ∧ w' = w'') :
    Calls Try.prog 54 #[.int .i64 n, .func (.func g) #[] cb] w (IntsRes (tabL n fun k => h (k + 1)) w) := by
  have HF := hide hf
  obtain ⟨h11, h12⟩ := hn
  clear hf
  go_enter Try.func54, Try.ntmps54
  go_wp2_with (at_make; refine wpList_new w.heap.size n (.int .i64 0) rfl _ _ rfl Try.underlying22 Try.infoInt rfl (by decide) rfl rfl (by omega) (Nat.le_refl _) ?_; intro w1 hown1 hb1 hg1)
  have HO := hide hown1; have HB := hide hb1
  clear hown1 hb1 hg1
  go_wp2
  go_loopw [10] (fun i w' => ∃ k : Nat, k ≤ n ∧ i = .int .i64 k ∧ w'.ownsRow w.heap.size 3 1 (.slice (some ⟨w.heap.size, 0, none⟩) n n) n (ints (tabL n fun t => if t < k then h (t + 1) else 0)) ∧ Below w.heap.size w w') (fun i _ => n - (intOf i).toNat)
  case atStart => exact ⟨0, Nat.zero_le _, rfl, by rw [tabL_zero] at HO; exact HO.out, HB.out⟩
  case round =>
    clear HO HB
    obtain ⟨k, hk, rfl, hown, hb⟩ := hrel
    have HO := hide hown; have HB := hide hb
    clear hown hb
    by_cases hlt : k < n
    · have hc1 := cell_held HO.out hlt
      have hf := HO.out.frozenAt k
      have HS := HO.out.stored k (.int .i64 (h (k + 1)))
      rw [ints_set, tabL_set] at HS
      have e2 : (tabL n fun t => if t = k then h ((k : Int) + 1) else if t < k then h (t + 1) else 0) = tabL n fun t => if t < k + 1 then h (t + 1) else 0 := tabL_congr fun i _ => by
        by_cases e : i = k
        · subst e; rw [if_pos rfl, if_pos (Nat.lt_succ_self _)]
        · rw [if_neg e]
          by_cases e' : i < k
          · rw [if_pos e', if_pos (by omega)]
          · rw [if_neg e', if_neg (by omega)]
      rw [e2] at HS
      have HS := hide HS
      clear e2
      have HCA := HF.out (k + 1) wr (by omega) (by omega) HB.out
      rw [show (((k + 1 : Nat) : Int)) = (k : Int) + 1 by omega] at HCA
      have HCA := hide HCA
      obtain ⟨z, hz⟩ : ∃ z, z = h ((k : Int) + 1) := ⟨_, rfl⟩
      rw [← hz] at HS HCA
      clear hz
      go_wp2_with (go_at_fn g; refine HCA.out.mono ?_; rintro e w9 ⟨rfl, rfl⟩)
      go_roundw
      case rel => exact ⟨k + 1, by omega, by go_num, HS.out.1, HB.out.setCell (Nat.le_refl _) _⟩
      case measure => simp [intOf]; omega
    · obtain rfl : k = n := by omega
      have e3 : (tabL k fun t => if t < k then h (t + 1) else 0) = tabL k fun t => h (t + 1) := tabL_congr fun i hi => by rw [if_pos hi]
      have HO : Hid _ := hide (e3 ▸ HO.out)
      clear e3
      go_wp2
      go_ret
      exact ⟨_, rfl, by rw [tabL_len]; exact HO.out, HB.out⟩
theorem before_any (k : Int) (w : World) (h : -100 ≤ k ∧ k ≤ 100) : Calls Try.prog 55 #[.int .i64 k] w fun e w' => e = .returned (.int .i64 (k - 1)) ∧ w = w' := by
  obtain ⟨h1, h2⟩ := h
  go_enter Try.func55, Try.ntmps55
  go_wp2
  go_ret
  exact ⟨rfl, rfl⟩
theorem compare_quiet (x y : Int) (w : World) (n : Nat) :
    Calls Try.prog 58 #[.int .i64 x, .int .i64 y] (w.drewN n) fun e w'' => e = .returned (.int .i64 (cmpI x y)) ∧ ∃ k, w'' = w.drewN k := by
  refine Calls.quiet_of_same ((compare_any x y (w.drewN n)).mono ?_)
  rintro e w' ⟨rfl, rfl⟩
  exact ⟨rfl, rfl⟩
set_option maxHeartbeats 1000000 in
theorem greedyCmp_any (v : Value) (c : List Int) (a b q : Nat) (w : World) (hin : InRow w v c) (hq : w.cell? ⟨q, 0, none⟩ = some v) (ha : a < c.length) (hb : b < c.length) :
    Calls Try.prog 57 #[.int .i64 a, .int .i64 b, .pointer (some ⟨q, 0, none⟩)] w fun e w' => e = .returned (.int .i64 (cmpI (c.getD b 0) (c.getD a 0))) ∧ ∃ m, w' = w.drewN m := by
  obtain ⟨x, cp, rfl, hm, hp⟩ := hin
  obtain ⟨g, o, rfl, hg, hc⟩ := hp.resolve_left (by omega)
  have h1 := hc a ha
  have h2 := hc b hb
  unfold maxLen at hm
  rw [List.getD_eq_getElem?_getD, List.getD_eq_getElem?_getD, List.getElem?_eq_getElem ha, List.getElem?_eq_getElem hb, Option.getD_some, Option.getD_some]
  obtain ⟨xa, hxa⟩ : ∃ xa, xa = c[a] := ⟨_, rfl⟩
  obtain ⟨xb, hxb⟩ : ∃ xb, xb = c[b] := ⟨_, rfl⟩
  rw [← hxa] at h1 ⊢
  rw [← hxb] at h2 ⊢
  obtain ⟨L, hL⟩ : ∃ L, L = c.length := ⟨_, rfl⟩
  rw [← hL] at ha hb hm hq
  clear hxa hxb hc hp hL hg
  go_enter Try.func57, Try.ntmps57
  go_wp2
  go_quiet ((go_at_call 58; exact compare_quiet xb xa _ _))
  go_wp2
  go_ret
  exact ⟨rfl, _, rfl⟩

def encF {C : Nat} (i : Fin C) : Value := .int .i64 (i.val : Int)
theorem own_sortedF {w : World} {base E n g cap C : Nat} [Inhabited (Fin C)] {xs : List Value} (d : Array (Fin C)) (m : Nat) (os : Array Obj) (h : w.ownsRow base E 1 (.slice (some ⟨g, 0, none⟩) n cap) n xs) (hs : d.size = n) :
    (sortWorld encF w g 0 m d os).ownsRow base E 1 (.slice (some ⟨g, 0, none⟩) n cap) n (d.toList.map encF) ∧ w.grownBy (sortWorld encF w g 0 m d os) (some g) := by
  rcases h.2 with ⟨he, _⟩ | ⟨g', cap', cur, he, hbg, hg, hc, hm, hz, ht⟩
  · cases he
  cases he
  have hgl := (Array.getElem?_eq_some_iff.1 hg).1
  have hheap : (sortWorld encF w g 0 m d os).heap = w.heap.modify g (Go.Sort.onCells (Go.Sort.putCells encF 0 d)) ++ os := rfl
  have hsz : (w.heap.modify g (Go.Sort.onCells (Go.Sort.putCells encF 0 d))).size = w.heap.size := Array.size_modify
  have hat : (sortWorld encF w g 0 m d os).heap[g]? = some (.cells (Go.Sort.putCells encF 0 d cur) E (0, 0)) := by
    rw [hheap, Array.getElem?_append_left (by rw [hsz]; exact hgl), Array.getElem?_modify, if_pos rfl, hg]; rfl
  refine ⟨⟨by simp; omega, .inr ⟨g, cap, _, rfl, hbg, hat, hc, hm, by rw [Go.Sort.putCells, Array.size_mapIdx]; exact hz, ?_⟩⟩, ⟨rfl, rfl, rfl, by rw [hheap, Array.size_append, hsz]; omega, fun k hk hne => ?_⟩⟩
  · apply List.ext_getElem
    · rw [List.length_take, Array.length_toList, Go.Sort.putCells, Array.size_mapIdx, List.length_map, Array.length_toList]; omega
    · intro i h1 h2
      rw [List.length_map, Array.length_toList] at h2
      rw [List.getElem_take, Array.getElem_toList, List.getElem_map, Array.getElem_toList]
      simp only [Go.Sort.putCells, Array.getElem_mapIdx]
      rw [if_pos ⟨Nat.zero_le _, by omega⟩, Nat.sub_zero, getElem!_pos d i h2]
  · rw [hheap, Array.getElem?_append_left (by rw [hsz]; exact hk), Array.getElem?_modify, if_neg (fun e => hne (by rw [e]))]
def idxL (s : List Nat) : List Int := s.map fun (i : Nat) => (i : Int)
theorem fins_range (C : Nat) : (finsL C).toList.map encF = ints (idxL (List.range C)) := by
  apply List.ext_getElem
  · simp [finsL, ints, idxL]
  · intro i h1 h2; simp [finsL, ints, idxL, encF]
theorem map_encF {C : Nat} (d : Array (Fin C)) : d.toList.map encF = ints (idxL (d.toList.map (·.val))) := by
  simp only [ints, idxL, List.map_map]; rfl
set_option maxHeartbeats 1000000 in
theorem insertion_any (base : Nat) (g cap : Nat) (v : Value) (c : List Int) (q : Nat) (w : World) (h : w.ownsRow base 3 1 (.slice (some ⟨g, 0, none⟩) c.length cap) c.length (ints (idxL (List.range c.length)))) (hb : base ≤ w.heap.size) (hc1 : 1 ≤ c.length) (hc5 : c.length ≤ 5)
    (hr : ∀ w', Below base w w' → InRow w' v c ∧ w'.cell? ⟨q, 0, none⟩ = some v) :
    Calls Try.prog 97 #[.slice (some ⟨g, 0, none⟩) c.length cap, .int .i64 0, .int .i64 c.length, .func (.func 57) #[] #[.pointer (some ⟨q, 0, none⟩)]] w fun e w' =>
      e = .returned (.tuple #[]) ∧ w'.ownsRow base 3 1 (.slice (some ⟨g, 0, none⟩) c.length cap) c.length (ints (idxL (sortK c))) ∧ Below base w w' := by
  haveI : Inhabited (Fin c.length) := ⟨⟨0, hc1⟩⟩
  obtain ⟨g', cap', he, hbg, hg, hcc, hm, hcell, hfr⟩ := own_some h (by omega)
  cases he
  have eg : ∀ args w, (callFunc 57 args).run Try.prog w = .ok (.enter 57 args) w := enters_of Try.func57 (by kernel_rfl) rfl
  let cf : Fin c.length → Fin c.length → Int := fun x y => cmpI (c.getD y.val 0) (c.getD x.val 0)
  have hsz : (finsL c.length).size = c.length := by simp [finsL]
  have hcmp : CmpReads Try.prog 57 #[.pointer (some ⟨q, 0, none⟩)] encF cf g 0 (finsL c.length).size w := fun m os dk hdk x y => by
    obtain ⟨k1, k2⟩ := own_sortedF dk m os h (by rw [hdk, hsz])
    obtain ⟨r1, r2⟩ := hr _ ((Below.refl base w).grown k2 hb (fun k hk => by cases hk; exact hbg))
    exact greedyCmp_any v c x.val y.val q _ r1 r2 x.isLt y.isLt
  have hH : Go.Sort.Holds encF w g 0 (finsL c.length) := fun j hj => by
    have hj' : j < c.length := by rw [← hsz]; exact hj
    rw [Nat.zero_add]
    refine ⟨?_, hfr j⟩
    rw [hcell j hj', ints_at _ j (by simp [idxL]; exact hj'), getElem!_pos (finsL c.length) j hj]
    simp [idxL, finsL, encF]
  have hcon := Try.insertionSortCmpFunc_one encF (fun _ => rfl) cf 57 #[.pointer (some ⟨q, 0, none⟩)] g 0 cap 0 c.length (finsL c.length) w eg hcmp hH (Nat.zero_le _) (by rw [hsz]; exact Nat.le_refl _) (by rw [hsz]; omega)
  rw [hsz] at hcon
  refine hcon.mono ?_
  rintro e w' ⟨rfl, m, rfl⟩
  have hins := insertion_top (c := c) (by omega) (ltOf cf) (fun x y => by
    show decide (cmpI (c.getD y.val 0) (c.getD x.val 0) < 0) = _
    simp only [cmpI_neg])
  have hsr : (Go.Sort.insertionSort (ltOf cf) (finsL c.length) 0 c.length).size = c.length := by
    have := congrArg List.length hins
    rw [sortK_len] at this; simpa using this
  obtain ⟨k1, k2⟩ := own_sortedF (Go.Sort.insertionSort (ltOf cf) (finsL c.length) 0 c.length) m #[] h hsr
  rw [sortWorld_none] at k1 k2
  rw [map_encF, hins] at k1
  exact ⟨rfl, k1, (Below.refl base w).grown k2 hb (fun k hk => by cases hk; exact hbg)⟩
set_option maxHeartbeats 1000000 in
theorem stableCmp_any (base : Nat) (g cap : Nat) (v : Value) (c : List Int) (q : Nat) (w : World) (h : w.ownsRow base 3 1 (.slice (some ⟨g, 0, none⟩) c.length cap) c.length (ints (idxL (List.range c.length)))) (hb : base ≤ w.heap.size) (hc1 : 1 ≤ c.length) (hc5 : c.length ≤ 5)
    (hr : ∀ w', Below base w w' → InRow w' v c ∧ w'.cell? ⟨q, 0, none⟩ = some v) :
    Calls Try.prog 84 #[.slice (some ⟨g, 0, none⟩) c.length cap, .int .i64 c.length, .func (.func 57) #[] #[.pointer (some ⟨q, 0, none⟩)]] w fun e w' =>
      e = .returned (.tuple #[]) ∧ w'.ownsRow base 3 1 (.slice (some ⟨g, 0, none⟩) c.length cap) c.length (ints (idxL (sortK c))) ∧ Below base w w' := by
  have HI := hide (insertion_any base g cap v c q w h hb hc1 hc5 hr)
  obtain ⟨C, hC⟩ : ∃ C, C = c.length := ⟨_, rfl⟩
  rw [← hC] at HI hc1 hc5 ⊢
  clear h hr hC
  go_enter Try.func84, Try.ntmps84
  go_wp2
  go_loop [7, 8] (fun a b => a = .int .i64 0 ∧ b = .int .i64 20) (fun _ _ => 0)
  case atStart => exact ⟨rfl, rfl⟩
  case round =>
    obtain ⟨rfl, rfl⟩ := hrel
    go_wp2_with (go_at_call 97; refine HI.out.mono ?_; rintro e w9 ⟨rfl, ho, hb⟩; have HO := hide ho; have HB := hide hb; clear ho hb)
    go_loop [6, 7, 8] (fun z a b => z = .int .i64 20 ∧ a = .int .i64 0 ∧ b = .int .i64 20) (fun _ _ _ => 0)
    case atStart => exact ⟨rfl, rfl, rfl⟩
    case round =>
      obtain ⟨rfl, rfl, rfl⟩ := hrel
      go_wp2
      go_end0
      exact ⟨rfl, HO.out, HB.out⟩
set_option maxHeartbeats 1000000 in
theorem stable_any (base : Nat) (g cap : Nat) (v : Value) (c : List Int) (q : Nat) (w : World) (h : w.ownsRow base 3 1 (.slice (some ⟨g, 0, none⟩) c.length cap) c.length (ints (idxL (List.range c.length)))) (hb : base ≤ w.heap.size) (hc1 : 1 ≤ c.length) (hc5 : c.length ≤ 5)
    (hr : ∀ w', Below base w w' → InRow w' v c ∧ w'.cell? ⟨q, 0, none⟩ = some v) :
    Calls Try.prog 56 #[.slice (some ⟨g, 0, none⟩) c.length cap, .func (.func 57) #[] #[.pointer (some ⟨q, 0, none⟩)]] w fun e w' =>
      e = .returned (.tuple #[]) ∧ w'.ownsRow base 3 1 (.slice (some ⟨g, 0, none⟩) c.length cap) c.length (ints (idxL (sortK c))) ∧ Below base w w' := by
  have HI := hide (stableCmp_any base g cap v c q w h hb hc1 hc5 hr)
  obtain ⟨C, hC⟩ : ∃ C, C = c.length := ⟨_, rfl⟩
  rw [← hC] at HI hc1 hc5 ⊢
  clear h hr hC
  go_enter Try.func56, Try.ntmps56
  go_wp2_with (go_at_call 84; refine HI.out.mono ?_; rintro e w9 ⟨rfl, ho, hb⟩; have HO := hide ho; have HB := hide hb; clear ho hb)
  go_end0
  exact ⟨rfl, HO.out, HB.out⟩
end Go.Proofs.Ytecfigjkcpbggaa
