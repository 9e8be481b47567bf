/-
  eqSwitch, eqSwitchS of the exact laws, at the same switches.
-/
import Derived.Test.YtnhijmhambggbaaSwH
namespace Go.Proofs.Ytnhijmhambggbaa
open Go.RowKit

set_option maxHeartbeats 1000000 in
theorem eqSwitch_same (s : Sw) (w : World) : Calls Try.prog 46 #[swV s, swV s] w fun e w' => e = .returned (.bool true) ∧ Below w.heap.size w w' := by
  go_enter Try.func46, Try.ntmps46
  go_wp2_with (first | ((with_reducible refine wpList_boxSw s 2 rfl rfl (.tmp 0) rfl rfl ?_); intro w1 h1 b1 s1) | ((with_reducible refine wpList_boxSw s 3 rfl rfl (.tmp 1) rfl rfl ?_); intro w2 h2 b2 s2; have h3 := swAt_below h1 b2; have hb := b1.trans (b2.mono b1.size); rw [s1] at h2 s2 ⊢; obtain ⟨c0, c1, c2, c3⟩ := swAt_cells h2; obtain ⟨d0, d1, d2, d3⟩ := swAt_cells h3; clear h1 h2 h3 b1 b2 s1 s2))
  go_ret
  exact ⟨rfl, hb⟩
theorem exec_loadSwC {ρ : Operand → Value} {o : Oper} {w : World} {x : Operand} {g k : Nat} {s : Sw} (ho : o.op = .load 42 x) (hx : ρ x = .pointer (some ⟨g, k, none⟩)) (hb : SwC w g k s) : (execOp ρ o).run Try.prog w = .ok (.value (swV s)) w := by
  obtain ⟨h0, h1, h2, h3⟩ := hb
  unfold execOp
  simp only [ho, hx]
  go_simp
  rfl
theorem exec_indexSw {ρ : Operand → Value} {o : Oper} {w : World} {x i : Operand} {g b n c k : Nat} (ho : o.op = .indexAddr 36 x i) (hx : ρ x = .slice (some ⟨g, b, none⟩) n c) (hi : ρ i = .int .i64 k) (hk : k < n) : (execOp ρ o).run Try.prog w = .ok (.value (.pointer (some ⟨g, b + k * 4, none⟩))) w := by
  have hkI : (k : Int) < n := by omega
  unfold execOp
  simp only [ho, hx, hi]
  go_simp

theorem exec_not {P : Program} {ρ : Operand → Value} {o : Oper} {w : World} {x : Operand} {T : TypeId} {b : Bool} (ho : o.op = .unOp .not T x) (hx : ρ x = .bool b) : (execOp ρ o).run P w = .ok (.value (.bool !b)) w := by
  unfold execOp
  simp only [ho, hx]
  rfl
set_option maxRecDepth 100000 in
set_option maxHeartbeats 2000000 in
theorem eqSwitchS_same (va vb : Value) (l : List Sw) (w : World) (ha : InSws w va l) (hb : InSws w vb l) :
    Calls Try.prog 38 #[va, vb] w fun e w' => e = .returned (.bool true) ∧ Below w.heap.size w w' := by
  obtain ⟨a1, c1, rfl, hm, hp1⟩ := ha
  obtain ⟨a2, c2, rfl, -, hp2⟩ := hb
  have HP1 := hide hp1; have HP2 := hide hp2
  unfold maxLen at hm
  obtain ⟨n, hn⟩ : ∃ n, n = l.length := ⟨_, rfl⟩
  have HN := hide hn
  rw [← hn] at hm ⊢
  clear hn hp1 hp2
  go_enter Try.func38, Try.ntmps38
  go_wp2
  go_loopw [5] (fun i w' => ∃ k : Nat, k ≤ n ∧ i = .int .i64 k ∧ Below w.heap.size w w') (fun i _ => n - (intOf i).toNat)
  case atStart => exact ⟨0, Nat.zero_le _, rfl, Below.refl _ _⟩
  case round =>
    obtain ⟨k, hk, rfl, hb⟩ := hrel
    have HB := hide hb
    clear hb
    by_cases hlt : k < n
    · have hltI : (k : Int) < n := by omega
      have hkl : k < l.length := by rw [← HN.out]; exact hlt
      obtain ⟨g1, o1, rfl, hg1, hd1⟩ := HP1.out.resolve_left (by omega)
      obtain ⟨g2, o2, rfl, hg2, hd2⟩ := HP2.out.resolve_left (by omega)
      have hc1 := swC_below (hd1 k hkl) HB.out hg1
      have hc2 := swC_below (hd2 k hkl) HB.out hg2
      have hl1 := Nat.lt_of_lt_of_le hg1 HB.out.size
      have hl2 := Nat.lt_of_lt_of_le hg2 HB.out.size
      obtain ⟨s, hs⟩ : ∃ s, s = l[k] := ⟨_, rfl⟩
      rw [← hs] at hc1 hc2
      clear hs hd1 hd2
      go_wp2
      obtain ⟨fs, hfs⟩ : ∃ fs : List FactP, fs = [isV (.slice (some ⟨g1, o1, none⟩) n c1), isV (.int .i64 (k : Int)), isV (.pointer (some ⟨g1, o1 + k * 4, none⟩)), isV (swV s), isV (.slice (some ⟨g2, o2, none⟩) n c2), isV (.int .i64 (k : Int)), isV (.pointer (some ⟨g2, o2 + k * 4, none⟩)), isV (swV s), isV (.bool true)] := ⟨_, rfl⟩
      have hst : ∀ f ∈ fs, StableP f := by
        rw [hfs]; intro f hf
        simp only [List.mem_cons, List.not_mem_nil, or_false] at hf
        rcases hf with rfl | rfl | rfl | rfl | rfl | rfl | rfl | rfl | rfl <;> exact stable_v _
      subst hfs
      refine wp_region_tail (S := fun w2 => SwC w2 g1 (o1 + k * 4) s ∧ SwC w2 g2 (o2 + k * 4) s ∧ Below wr.heap.size wr w2) [isV (.slice (some ⟨g1, o1, none⟩) n c1), isV (.int .i64 (k : Int)), isV (.pointer (some ⟨g1, o1 + k * 4, none⟩)), isV (swV s), isV (.slice (some ⟨g2, o2, none⟩) n c2), isV (.int .i64 (k : Int)), isV (.pointer (some ⟨g2, o2 + k * 4, none⟩)), isV (swV s), isV (.bool true)] [(0, .slice (some ⟨g1, o1, none⟩) n c1), (1, .slice (some ⟨g2, o2, none⟩) n c2), (5, .int .i64 (k : Int))] _ _ 9 (by kernel_rfl) rfl rfl (by kernel_rfl) (by kernel_rfl) rfl (by kernel_rfl) ?base ⟨swC_below hc1 (below_drew (Below.refl _ _)) hl1, swC_below hc2 (below_drew (Below.refl _ _)) hl2, below_drew (Below.refl _ _)⟩ ?ob rfl ?fin
      case base =>
        intro t v ht
        simp only [List.lookup_cons, List.lookup_nil] at ht
        repeat' split at ht
        all_goals first | (cases ht; done) | (obtain rfl := Option.some.inj ht; rename_i hh; obtain rfl := eq_of_beq hh; rfl)
      case ob =>
        exact ⟨obt_move (.slice (some ⟨g1, o1, none⟩) n c1) rfl rfl rfl (srt_b 0 rfl),
          obt_move (.int .i64 (k : Int)) rfl rfl rfl (srt_b 5 rfl),
          obt_two (.pointer (some ⟨g1, o1 + k * 4, none⟩)) rfl rfl (srt_j 0 rfl (by kernel_rfl) rfl) (srt_j 1 rfl (by kernel_rfl) rfl) (fun ρ w2 hS hx hy => exec_indexSw rfl hx hy hlt),
          obt_one (swV s) rfl rfl (srt_j 2 rfl (by kernel_rfl) rfl) (fun ρ w2 hS hx => exec_loadSwC rfl hx hS.1),
          obt_move (.slice (some ⟨g2, o2, none⟩) n c2) rfl rfl rfl (srt_b 1 rfl),
          obt_move (.int .i64 (k : Int)) rfl rfl rfl (srt_b 5 rfl),
          obt_two (.pointer (some ⟨g2, o2 + k * 4, none⟩)) rfl rfl (srt_j 4 rfl (by kernel_rfl) rfl) (srt_j 5 rfl (by kernel_rfl) rfl) (fun ρ w2 hS hx hy => exec_indexSw rfl hx hy hlt),
          obt_one (swV s) rfl rfl (srt_j 6 rfl (by kernel_rfl) rfl) (fun ρ w2 hS hx => exec_loadSwC rfl hx hS.2.1),
          obt_call hst [swV s, swV s] rfl Try.func46 (by kernel_rfl) (by kernel_rfl) rfl ⟨(srt_j 3 rfl (by kernel_rfl) rfl), (srt_j 7 rfl (by kernel_rfl) rfl), trivial⟩ (fun w2 hS => (eqSwitch_same s w2).mono fun e w3 hh => ⟨_, hh.1, ⟨swC_below hS.1 hh.2 (Nat.lt_of_lt_of_le hl1 hS.2.2.size), swC_below hS.2.1 hh.2 (Nat.lt_of_lt_of_le hl2 hS.2.2.size), hS.2.2.trans (hh.2.mono hS.2.2.size)⟩, hh.2, rfl⟩),
          trivial⟩
      case fin =>
        intro a' w' h1 h2 h3 hS h4 K hK
        have ha := frame_ov rfl h1 h2 h3 [(17, .slice (some ⟨g1, o1, none⟩) n c1), (18, .int .i64 (k : Int)), (19, .pointer (some ⟨g1, o1 + k * 4, none⟩)), (20, swV s), (21, .slice (some ⟨g2, o2, none⟩) n c2), (22, .int .i64 (k : Int)), (23, .pointer (some ⟨g2, o2 + k * 4, none⟩)), (24, swV s), (25, .bool true), (26, a'.tmps.getD 26 undef)] (by kernel_rfl) ⟨h4 0 17 rfl (by decide), h4 1 18 rfl (by decide), h4 2 19 rfl (by decide), h4 3 20 rfl (by decide), h4 4 21 rfl (by decide), h4 5 22 rfl (by decide), h4 6 23 rfl (by decide), h4 7 24 rfl (by decide), h4 8 25 rfl (by decide), rfl, trivial⟩
        dsimp only [ov, List.lookup, Nat.reduceBEq, Nat.reduceAdd] at ha
        have v25 : a'.tmps.getD 25 undef = .bool true := h4 8 25 rfl (by decide)
        refine run_value (.bool false) (exec_not (b := true) rfl v25) (hK (.bool false) _ ?_)
        show Exit.then _ _ Exit.normal (Act.put a' (some 26) (.bool false)) _
        rw [ha]
        generalize a'.tmps.getD 26 undef = u26
        clear ha h1 h2 h3 h4 hst hK
        have HB2 := hide (HB.out.trans (hS.2.2.mono HB.out.size))
        clear hS
        go_wp2
        go_roundw
        case rel => exact ⟨k + 1, by omega, by go_num, HB2.out⟩
        case measure => simp [intOf]; omega
    · obtain rfl : k = n := by omega
      go_wp2
      go_ret
      exact ⟨rfl, HB.out⟩
end Go.Proofs.Ytnhijmhambggbaa
