/-
  lineMap.cancel: one map of lines less another one.
-/
import Derived.Test.YteogbddbafkieaaLList
namespace Go.Proofs.Yteogbddbafkieaa
open Go.RowKit Go.Maps
open Go.ChangeMaps (setBlock)

theorem grown_drew (w : World) (row : Option Nat) : w.grownBy w.drew row := ⟨rfl, rfl, rfl, Nat.le_refl _, fun _ _ _ => rfl⟩
theorem lr_cnt {w : World} {b r n : Nat} {A : Key → Bool} {F : Key → Int} {left : Key → Bool} {cnt : Nat} (h : LR w b r n A F left cnt) : cnt ≤ n := by
  obtain ⟨D, lf, ⟨es, clock, since, seen, c0, _, _, hs, _, _, _, hc, _⟩, -⟩ := h
  have : (leftOf es seen).size ≤ es.size := Array.size_filter_le
  omega
theorem exec_loadKey {ρ : Operand → Value} {o : Oper} {w : World} {x : Operand} {g : Nat} {k : Key} (ho : o.op = .load 71 x) (hx : ρ x = .pointer (some ⟨g, 0, none⟩)) (hd : w.heap[g]? = some (.cells #[.int .i64 k.x, .int .i64 k.y, .int .i64 k.n] 71 (0, 0))) :
    (execOp ρ o).run Try.prog w = .ok (.value (keyV k)) w := by
  unfold execOp keyV
  simp only [ho, hx, Instr.loadAt, Instr.sureAddr, Sem.run_bind, Sem.run_pure, Result.andThen_ok, run_loadVar_row w g _ _ _ _ _ hd Try.underlying71 rfl (show (Try.prog.info? 71).map (·.size) = some 3 by kernel_rfl)]
theorem wpList_loadKey {ops : Array Oper} {rest : List Oper} {o : Oper} {a : Act} {Q : Exit → Act → World → Prop} {W : World} {g : Nat} {k : Key} (hb : W.heap[g]? = some (.cells #[.int .i64 k.x, .int .i64 k.y, .int .i64 k.n] 71 (0, 0)))
    (hgd : o.guard = none) (x : Operand) (ho : o.op = .load 71 x) (hx : a.eval x = .pointer (some ⟨g, 0, none⟩))
    (h : wpList Try.prog ops Q rest (a.put o.dst (keyV k)) W) : wpList Try.prog ops Q (o :: rest) a W :=
  wpList_plain hgd fun _ hK => run_value _ (exec_loadKey ho hx hb) (hK _ _ h)

def CancelRes (b1 : Nat) (F1 F2 : Key → Int) (w : World) (e : Ending) (w' : World) : Prop :=
  ∃ nn, e = .returned (.tuple #[]) ∧ nn ≤ 200 ∧ LM w' b1 nn (thereK fun k => F1 k - F2 k) (fun k => F1 k - F2 k) ∧ w.grownBy w' (some b1)
/-- What has been taken away, as long as 'left' are still to come. -/
def lessK (A2 : Key → Bool) (F1 F2 : Key → Int) (left : Key → Bool) (k : Key) : Int := F1 k - if A2 k = true ∧ left k = false then F2 k else 0

set_option maxRecDepth 100000 in
set_option maxHeartbeats 4000000 in
theorem cancel_any (b1 b2 n1 n2 : Nat) (A2 : Key → Bool) (F1 F2 : Key → Int) (w : World) (h1 : LM w b1 n1 (thereK F1) F1) (h2 : LM w b2 n2 A2 F2) (hne : b1 ≠ b2) (hn1 : n1 ≤ 100) (hn2 : n2 ≤ 100) (hr1 : ∀ k, 0 ≤ F1 k ∧ F1 k ≤ 1000) (hr2 : ∀ k, 0 ≤ F2 k ∧ F2 k ≤ 1000) :
    Calls Try.prog 53 #[.map (some b1), .map (some b2)] w (CancelRes b1 F1 F2 w) := by
  have H1 := hide h1; have H2 := hide h2; have HR1 := hide hr1; have HR2 := hide hr2
  have hl1 := lm_lt h1; have hl2 := lm_lt h2
  clear h1 h2 hr1 hr2
  go_enter Try.func53, Try.ntmps53
  go_wp2_with (at_range; refine wpList_rangeLM w rfl _ rfl rfl H2.out ?_; intro w2 cnt hlr hb2 hs2; have HR := hide hlr; have HB := hide hb2; clear hlr hb2)
  obtain ⟨r, hr⟩ : ∃ r, r = w.heap.size := ⟨_, rfl⟩
  have HRR := hide hr
  rw [← hr] at HR hl1 hl2 hs2 ⊢
  clear hr
  go_frame
  go_loopw [4] (fun _ wr => ∃ (left : Key → Bool) (cnt nn : Nat), LR wr b2 r n2 A2 F2 left cnt ∧ LM wr b1 nn (thereK (lessK A2 F1 F2 left)) (lessK A2 F1 F2 left) ∧ nn + cnt ≤ n1 + n2 ∧ (∀ k : Key, left k = true → A2 k = true) ∧ w.grownBy wr (some b1)) (fun _ wr => wr.rangeLeft b2 r)
  case atStart =>
    refine ⟨A2, cnt, n1, HR.out, ?_, by have := lr_cnt HR.out; omega, fun k h => h, grown_of_below HB.out _⟩
    have e : ∀ k, lessK A2 F1 F2 A2 k = F1 k := fun k => by
      unfold lessK; rw [if_neg (fun h => by rw [h.1] at h; cases h.2)]; omega
    exact lm_congr (lm_below H1.out HB.out) (fun k _ => by unfold thereK; rw [e k]) (fun k _ => (e k).symm)
  case round =>
    obtain ⟨left, cnt', nn, hlr, hlm, hnn, hle, hg⟩ := hrel
    have HL := hide hlr; have HM := hide hlm; have HE := hide hle; have HG := hide hg
    have hrw := lr_lt hlr
    have hb1w := lm_lt hlm
    have hb2w := lm_lt (lr_owns hlr)
    clear hlr hlm hle hg
    go_wp2_with (at_next; refine wpList_nextLR wr rfl _ rfl rfl HL.out ?_ ?_)
    · intro hd
      have HD := hide hd
      clear hd
      go_wp2
      have e : ∀ k : Key, k.wf → lessK A2 F1 F2 left k = F1 k - F2 k := fun k hk => by
        unfold lessK
        rw [HD.out k hk]
        cases h : A2 k with
        | true => simp
        | false => rw [if_neg (fun h => by cases h.1), lm_absent H2.out hk h]
      exact bodyPost_end (v := .tuple #[]) (by simp [results, Try.results53]) rfl ⟨nn, rfl, by omega, lm_congr HM.out (fun k hk => by unfold thereK; rw [e k hk]) e, HG.out⟩
    · intro k w3 cnt3 hkw hlk hlr3 hlt hg3 hs3 hen
      have HLR3 := hide hlr3; have HKW := hide hkw; have HLK := hide hlk
      have hg3' := hg3
      obtain ⟨c, hc⟩ : ∃ c, c = F2 k := ⟨_, rfl⟩
      have HC := hide hc
      rw [← hc] at hen ⊢
      have hcb := HR2.out k
      rw [← hc] at hcb
      obtain ⟨hc0, hc1⟩ := hcb
      obtain ⟨kx, ky, kn⟩ := k
      unfold keyV at hen ⊢
      simp only at hen ⊢
      clear hlr3 hkw hlk hc hg3
      go_upto_region 3 with fail
      obtain ⟨k, hk⟩ : ∃ k : Key, k = ⟨kx, ky, kn⟩ := ⟨_, rfl⟩
      have HKE := hide hk
      rw [← hk] at HLR3 HKW HLK HC
      have HX : Hid (k.x = kx ∧ k.y = ky ∧ k.n = kn) := hide (by rw [hk]; exact ⟨rfl, rfl, rfl⟩)
      clear hk
      obtain ⟨G, hG⟩ : ∃ G, G = wr.heap.size := ⟨_, rfl⟩
      have hgen : ∃ w4, w4 = w3.alloc (.cells #[.int .i64 kx, .int .i64 ky, .int .i64 kn] 71) := ⟨_, rfl⟩
      obtain ⟨w4, hw4⟩ := hgen
      have hal : Below w3.heap.size w3 w4 := by rw [hw4]; exact (Below.refl _ _).alloc (Nat.le_refl _) _
      have hkc : w4.heap[G]? = some (.cells #[.int .i64 k.x, .int .i64 k.y, .int .i64 k.n] 71 (0, 0)) := by
        rw [hw4, hG, ← hs3, HX.out.1, HX.out.2.1, HX.out.2.2]; exact heap_alloc_new w3 _
      have HKC := hide hkc
      have HL4 := hide (lr_below HLR3.out hal)
      have HM4 := hide (lm_below (lm_grown HM.out hg3' (by simp; omega)) hal)
      have HG4 := hide (World.grownBy.andThen (World.grownBy.andThen HG.out hg3' (fun j hj => by cases hj; left; rw [HRR.out]; exact Nat.le_refl _)) (grown_of_below hal none) (fun j hj => by cases hj))
      rw [← hw4, ← hG]
      have hb1G : b1 < G := by rw [hG]; exact hb1w
      have hrG : r < G := by rw [hG]; exact hrw
      clear hal hkc hg3' hw4 hs3
      obtain ⟨E0, E1, st, hE0, hE⟩ := lm_ent HM4.out (by unfold maxLen; omega) HKW.out
      have HEn := hide hE; have HE0 := hide hE0
      clear hE hE0
      have hf : lessK A2 F1 F2 left k = F1 k := by
        unfold lessK; rw [if_neg (fun h => by rw [HLK.out] at h; cases h.2)]; omega
      have hfb := HR1.out k
      rw [← hf] at hfb
      obtain ⟨f, hff⟩ : ∃ f, f = lessK A2 F1 F2 left k := ⟨_, rfl⟩
      have HF := hide hff
      have HF1 : Hid (f = F1 k) := hide (by rw [hff, hf])
      rw [← hff] at hfb
      obtain ⟨hf0, hf1⟩ := hfb
      clear hff hf
      have l1 : IntKind.i64.wrap (f - c) = f - c := IntWalk.i64_in _ (by omega)
      obtain ⟨fs, hfs⟩ : ∃ fs : List FactP, fs = [isV (.map (some b1)), isV (keyV k), isV (.int .i64 f), isV (.int .i64 c), isV (.int .i64 (f - c)), isB (.tuple #[.int .i64 f, .int .i64 st]) b1 E1, isV (.int .i64 st)] := ⟨_, rfl⟩
      have hst : ∀ f ∈ fs, StableP f := by
        rw [hfs]; intro f hf
        simp only [List.mem_cons, List.not_mem_nil, or_false] at hf
        rcases hf with rfl | rfl | rfl | rfl | rfl | rfl | rfl <;> first | exact stable_v _ | exact stable_b _ _ _
      have hout : ∀ f ∈ fs, OutP b1 E1 f := by
        rw [hfs]; intro f hf
        simp only [List.mem_cons, List.not_mem_nil, or_false] at hf
        rcases hf with rfl | rfl | rfl | rfl | rfl | rfl | rfl <;> first | exact out_v _ _ _ | exact out_b _ _ _
      subst hfs
      refine wp_region_tail (S := fun w5 => w5.heap[G]? = some (.cells #[.int .i64 k.x, .int .i64 k.y, .int .i64 k.n] 71 (0, 0)) ∧ w4.grownBy w5 (some b1) ∧ (w5.heap[b1]? = some E0 ∨ w5.heap[b1]? = some E1)) [isV (.map (some b1)), isV (keyV k), isV (.int .i64 f), isV (.int .i64 c), isV (.int .i64 (f - c)), isB (.tuple #[.int .i64 f, .int .i64 st]) b1 E1, isV (.int .i64 st)] [(0, .map (some b1)), (4, .pointer (some ⟨G, 0, none⟩)), (5, .int .i64 c)] _ _ 7 (by kernel_rfl) rfl rfl (by kernel_rfl) (by kernel_rfl) rfl (by kernel_rfl) ?base ⟨HKC.out, grown_drew _ _, .inl HE0.out⟩ ?ob rfl ?fin
      case base =>
        intro t v ht
        simp only [List.lookup_cons, List.lookup_nil] at ht
        repeat' split at ht
        all_goals first | (cases ht; done) | (obtain rfl := Option.some.inj ht; rename_i hh; obtain rfl := eq_of_beq hh; rfl)
      case ob =>
        exact ⟨obt_move (.map (some b1)) rfl rfl rfl (srt_b 0 rfl),
          obt_one (keyV k) rfl rfl (srt_b 4 rfl) (fun ρ w2 hS hx => exec_loadKey rfl hx hS.1),
          obt_two (.int .i64 f) rfl rfl (srt_j 0 rfl (by kernel_rfl) rfl) (srt_j 1 rfl (by kernel_rfl) rfl) (fun ρ w2 hS hx hy => exec_lookupK rfl hx hy (by rw [HF.out]; exact HEn.out.look w2 hS.2.2)),
          obt_move (.int .i64 c) rfl rfl rfl (srt_b 5 rfl),
          obt_two (.int .i64 (f - c)) rfl rfl (srt_j 2 rfl (by kernel_rfl) rfl) (srt_j 3 rfl (by kernel_rfl) rfl) (fun ρ w2 hS hx hy => by go_simp),
          obt_entry (by have := HEn.out; exact this) rfl (by rw [HF.out]; rfl) rfl (srt_j 0 rfl (by kernel_rfl) rfl) (srt_j 1 rfl (by kernel_rfl) rfl) hout (fun w2 hS => hS.2.2) (fun w2 hS => ⟨(sb_other w2 E1 (by omega)).trans hS.1, grown_trans hS.2.1 (sb_grown w2 _ _), .inr (hS.2.2.elim sb_same sb_same)⟩),
          obt_stamp 5 rfl rfl rfl rfl (by kernel_rfl) rfl,
          trivial⟩
      case fin =>
        intro a' w' h1 h2 h3 hS h4 K hK
        have v13 : a'.tmps.getD 13 undef = .map (some b1) := h4 0 13 rfl (by decide)
        have v19 : a'.tmps.getD 19 undef = .int .i64 st := h4 6 19 rfl (by decide)
        have v17 : a'.tmps.getD 17 undef = .int .i64 (f - c) := h4 4 17 rfl (by decide)
        have hb1' : w'.heap[b1]? = some E1 := (h4 5 18 rfl (by decide)).2
        obtain ⟨E', hrun, hlm'⟩ := HEn.out.store w' (f - c) (WalkArith.wf_i64 (by omega)) hb1'
        refine run_skip (w' := setBlock w' b1 E') (exec_storeK rfl v13 v19 v17 hrun) (hK _ _ ?_)
        have HLE : Hid (∀ z : Key, lessK A2 F1 F2 (fun z => left z && !decide (z = k)) z = setK (lessK A2 F1 F2 left) k (f - c) z) := hide fun z => by
          unfold setK
          by_cases e : z = k
          · subst e
            rw [if_pos rfl]
            unfold lessK
            rw [if_pos ⟨HE.out z HLK.out, by simp⟩, HF1.out, HC.out]
          · rw [if_neg e]
            unfold lessK
            simp only [decide_eq_false e, Bool.not_false, Bool.and_true]
        have HEL : Hid (∀ z : Key, (left z && !decide (z = k)) = true → A2 z = true) := hide fun z hz => by rw [Bool.and_eq_true] at hz; exact HE.out z hz.1
        have HFK : Hid (setK (lessK A2 F1 F2 left) k (f - c) k = f - c) := hide (by unfold setK; rw [if_pos rfl])
        have HQ1 := hide hlm'
        have HQ2 : Hid ((setBlock w' b1 E').heap[G]? = some (.cells #[.int .i64 k.x, .int .i64 k.y, .int .i64 k.n] 71 (0, 0))) := hide ((sb_other w' E' (by omega)).trans hS.1)
        have hgg := grown_trans hS.2.1 (sb_grown w' b1 E')
        have HQ3 := hide (lr_grown HL4.out hgg (by simp; omega) (by simp; omega))
        have HQ4 := hide (grown_trans HG4.out hgg)
        have ha : a' = ⟨List.toArray [.map (some b1), .map (some b2), undef, undef, .pointer (some ⟨G, 0, none⟩), .int .i64 c, .map (some b2), .pointer (some ⟨r, 0, none⟩), .tuple #[.bool true, .agg #[.int .i64 kx, .int .i64 ky, .int .i64 kn], .int .i64 c], .bool true, .tuple #[.agg #[.int .i64 kx, .int .i64 ky, .int .i64 kn], .int .i64 c], .agg #[.int .i64 kx, .int .i64 ky, .int .i64 kn], .int .i64 c, a'.tmps.getD 13 undef, a'.tmps.getD 14 undef, a'.tmps.getD 15 undef, a'.tmps.getD 16 undef, a'.tmps.getD 17 undef, a'.tmps.getD 18 undef, a'.tmps.getD 19 undef, u20, u21, u22, u23, u24, u25], []⟩ := frame_eq _ h1 h2 ⟨(h3 0 (by kernel_rfl)), (h3 1 (by kernel_rfl)), (h3 2 (by kernel_rfl)), (h3 3 (by kernel_rfl)), (h3 4 (by kernel_rfl)), (h3 5 (by kernel_rfl)), (h3 6 (by kernel_rfl)), (h3 7 (by kernel_rfl)), (h3 8 (by kernel_rfl)), (h3 9 (by kernel_rfl)), (h3 10 (by kernel_rfl)), (h3 11 (by kernel_rfl)), (h3 12 (by kernel_rfl)), rfl, rfl, rfl, rfl, rfl, rfl, rfl, (h3 20 (by kernel_rfl)), (h3 21 (by kernel_rfl)), (h3 22 (by kernel_rfl)), (h3 23 (by kernel_rfl)), (h3 24 (by kernel_rfl)), (h3 25 (by kernel_rfl)), trivial⟩
        have hp : a'.put none undef = a' := rfl
        clear hrun hlm' hb1' v13 v19 v17 h1 h2 h3 h4 hS hst hout hgg
        refine (congrArg (fun q => Exit.then _ (Exit.inBlock 1 _) Exit.normal q (setBlock w' b1 E')) (hp.trans ha)).mpr ?_
        generalize a'.tmps.getD 13 undef = q13
        generalize a'.tmps.getD 14 undef = q14
        generalize a'.tmps.getD 15 undef = q15
        generalize a'.tmps.getD 16 undef = q16
        generalize a'.tmps.getD 17 undef = q17
        generalize a'.tmps.getD 18 undef = q18
        generalize a'.tmps.getD 19 undef = q19
        generalize setBlock w' b1 E' = w6 at HQ1 HQ2 HQ3 HQ4 ⊢
        clear hp ha l1 hG
        by_cases h0 : f - c = 0
        · have HZ := hide h0
          have HFK := hide (HFK.out.trans h0)
          clear h0
          go_wp2_with (first | (with_reducible refine wpList_loadKey HQ2.out rfl _ rfl rfl ?_) | ((with_reducible refine wpList_lookupLM w6 rfl _ _ rfl rfl rfl HQ1.out HKW.out ?_); rw [HFK.out]) | (at_delete; refine wpList_deleteLM w6 rfl _ _ rfl rfl rfl HQ1.out HKW.out ?_; intro w7 hd1 hd2 hd3; have HD1 := hide hd1; have HD2 := hide hd2; clear hd1 hd2 hd3))
        
          have HR7 := hide (lr_grown HQ3.out HD2.out (by simp; omega) (by simp; omega))
          have HG7 := hide (grown_trans HQ4.out HD2.out)
          have HM7 : Hid (LM w7 b1 (nn + 1) (thereK (lessK A2 F1 F2 (fun z => left z && !decide (z = k)))) (lessK A2 F1 F2 (fun z => left z && !decide (z = k)))) := hide (lm_congr HD1.out (fun z _ => by
            unfold thereK
            rw [HLE.out z]
            unfold setK
            by_cases e : z = k
            · simp only [if_pos e, HZ.out]; rfl
            · simp only [if_neg e]) (fun z _ => by
            rw [HLE.out z]
            unfold setK
            by_cases e : z = k
            · simp only [if_pos e, HZ.out]
            · simp only [if_neg e]))
          go_frame
          go_roundw
          case rel => exact ⟨_, cnt3, nn + 1, HR7.out, HM7.out, by omega, HEL.out, HG7.out⟩
          case measure => rw [lr_left HR7.out, lr_left HL.out]; exact hlt
        · have HZ := hide h0
          have hz : (f - c == 0) = false := by simp [h0]
          clear h0
          go_wp2_with (first | (with_reducible refine wpList_loadKey HQ2.out rfl _ rfl rfl ?_) | ((with_reducible refine wpList_lookupLM w6 rfl _ _ rfl rfl rfl HQ1.out HKW.out ?_); rw [HFK.out]))
          have HM7 : Hid (LM w6 b1 (nn + 1) (thereK (lessK A2 F1 F2 (fun z => left z && !decide (z = k)))) (lessK A2 F1 F2 (fun z => left z && !decide (z = k)))) := hide (lm_congr HQ1.out (fun z _ => by
            unfold thereK
            rw [HLE.out z]
            unfold setK
            by_cases e : z = k
            · rw [if_pos e, if_pos e]; exact (decide_eq_true HZ.out).symm
            · rw [if_neg e, if_neg e]) (fun z _ => (HLE.out z).symm))
          go_roundw
          case rel => exact ⟨_, cnt3, nn + 1, HQ3.out, HM7.out, by omega, HEL.out, HQ4.out⟩
          case measure => rw [lr_left HQ3.out, lr_left HL.out]; exact hlt
end Go.Proofs.Yteogbddbafkieaa
