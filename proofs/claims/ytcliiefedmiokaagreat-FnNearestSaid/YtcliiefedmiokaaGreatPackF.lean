/-
  Texts of this claim, one behind the other: Cancel, LSums, SumF, RowSS, RowS, SpecE, Swap, Val.
-/
import Derived.Test.YtcliiefedmiokaaGreatPackE
import Derived.Test.YtcliiefedmiokaaGreatPackB
/-
  lineMap.cancel: one map of lines less another one.
-/
namespace Go.Proofs.YtcliiefedmiokaaGreat
open Go.RowKit Go.Maps
open Go.ChangeMaps (setBlock)

theorem grown_drew (w : World) (row : Option Nat) : w.grownBy w.drew row := ⟨rfl, rfl, rfl, Nat.le_refl _, fun _ _ _ => rfl⟩
theorem lr_cnt {w : World} {b r n : Nat} {A : Key → Bool} {F : Key → Int} {left : Key → Bool} {cnt : Nat} (h : LR w b r n A F left cnt) : cnt ≤ n := by
  obtain ⟨D, lf, ⟨es, clock, since, seen, c0, _, _, hs, _, _, _, hc, _⟩, -⟩ := h
  have : (leftOf es seen).size ≤ es.size := Array.size_filter_le
  omega
theorem exec_loadKey {ρ : Operand → Value} {o : Oper} {w : World} {x : Operand} {g : Nat} {k : Key} (ho : o.op = .load 116 x) (hx : ρ x = .pointer (some ⟨g, 0, none⟩)) (hd : w.heap[g]? = some (.cells #[.int .i64 k.x, .int .i64 k.y, .int .i64 k.n] 116 (0, 0))) :
    (execOp ρ o).run Tryz.prog w = .ok (.value (keyV k)) w := by
  unfold execOp keyV
  simp only [ho, hx, Instr.loadAt, Instr.sureAddr, Sem.run_bind, Sem.run_pure, Result.andThen_ok, run_loadVar_row w g _ _ _ _ _ hd Tryz.underlying116 rfl (show (Tryz.prog.info? 116).map (·.size) = some 3 by kernel_rfl)]
theorem wpList_loadKey {ops : Array Oper} {rest : List Oper} {o : Oper} {a : Act} {Q : Exit → Act → World → Prop} {W : World} {g : Nat} {k : Key} (hb : W.heap[g]? = some (.cells #[.int .i64 k.x, .int .i64 k.y, .int .i64 k.n] 116 (0, 0)))
    (hgd : o.guard = none) (x : Operand) (ho : o.op = .load 116 x) (hx : a.eval x = .pointer (some ⟨g, 0, none⟩))
    (h : wpList Tryz.prog ops Q rest (a.put o.dst (keyV k)) W) : wpList Tryz.prog ops Q (o :: rest) a W :=
  wpList_plain hgd fun _ hK => run_value _ (exec_loadKey ho hx hb) (hK _ _ h)

def CancelRes (b1 : Nat) (F1 F2 : Key → Int) (w : World) (e : Ending) (w' : World) : Prop :=
  ∃ nn, e = .returned (.tuple #[]) ∧ nn ≤ 200 ∧ LM w' b1 nn (thereK fun k => F1 k - F2 k) (fun k => F1 k - F2 k) ∧ w.grownBy w' (some b1)
/-- What has been taken away, as long as 'left' are still to come. -/
def lessK (A2 : Key → Bool) (F1 F2 : Key → Int) (left : Key → Bool) (k : Key) : Int := F1 k - if A2 k = true ∧ left k = false then F2 k else 0

set_option maxRecDepth 100000 in
set_option maxHeartbeats 4000000 in
theorem cancel_any (b1 b2 n1 n2 : Nat) (A2 : Key → Bool) (F1 F2 : Key → Int) (w : World) (h1 : LM w b1 n1 (thereK F1) F1) (h2 : LM w b2 n2 A2 F2) (hne : b1 ≠ b2) (hn1 : n1 ≤ 100) (hn2 : n2 ≤ 100) (hr1 : ∀ k, 0 ≤ F1 k ∧ F1 k ≤ 1000) (hr2 : ∀ k, 0 ≤ F2 k ∧ F2 k ≤ 1000) :
    Calls Tryz.prog 52 #[.map (some b1), .map (some b2)] w (CancelRes b1 F1 F2 w) := by
  have H1 := hide h1; have H2 := hide h2; have HR1 := hide hr1; have HR2 := hide hr2
  have hl1 := lm_lt h1; have hl2 := lm_lt h2
  clear h1 h2 hr1 hr2
  go_enter Tryz.func52, Tryz.ntmps52
  go_wp2_with (at_range; refine wpList_rangeLM w rfl _ rfl rfl H2.out ?_; intro w2 cnt hlr hb2 hs2; have HR := hide hlr; have HB := hide hb2; clear hlr hb2)
  obtain ⟨r, hr⟩ : ∃ r, r = w.heap.size := ⟨_, rfl⟩
  have HRR := hide hr
  rw [← hr] at HR hl1 hl2 hs2 ⊢
  clear hr
  go_frame
  go_loopw [4] (fun _ wr => ∃ (left : Key → Bool) (cnt nn : Nat), LR wr b2 r n2 A2 F2 left cnt ∧ LM wr b1 nn (thereK (lessK A2 F1 F2 left)) (lessK A2 F1 F2 left) ∧ nn + cnt ≤ n1 + n2 ∧ (∀ k : Key, left k = true → A2 k = true) ∧ w.grownBy wr (some b1)) (fun _ wr => wr.rangeLeft b2 r)
  case atStart =>
    refine ⟨A2, cnt, n1, HR.out, ?_, by have := lr_cnt HR.out; omega, fun k h => h, grown_of_below HB.out _⟩
    have e : ∀ k, lessK A2 F1 F2 A2 k = F1 k := fun k => by
      unfold lessK; rw [if_neg (fun h => by rw [h.1] at h; cases h.2)]; omega
    exact lm_congr (lm_below H1.out HB.out) (fun k _ => by unfold thereK; rw [e k]) (fun k _ => (e k).symm)
  case round =>
    obtain ⟨left, cnt', nn, hlr, hlm, hnn, hle, hg⟩ := hrel
    have HL := hide hlr; have HM := hide hlm; have HE := hide hle; have HG := hide hg
    have hrw := lr_lt hlr
    have hb1w := lm_lt hlm
    have hb2w := lm_lt (lr_owns hlr)
    clear hlr hlm hle hg
    go_wp2_with (at_next; refine wpList_nextLR wr rfl _ rfl rfl HL.out ?_ ?_)
    · intro hd
      have HD := hide hd
      clear hd
      go_wp2
      have e : ∀ k : Key, k.wf → lessK A2 F1 F2 left k = F1 k - F2 k := fun k hk => by
        unfold lessK
        rw [HD.out k hk]
        cases h : A2 k with
        | true => simp
        | false => rw [if_neg (fun h => by cases h.1), lm_absent H2.out hk h]
      exact bodyPost_end (v := .tuple #[]) (by simp [results, Tryz.results52]) rfl ⟨nn, rfl, by omega, lm_congr HM.out (fun k hk => by unfold thereK; rw [e k hk]) e, HG.out⟩
    · intro k w3 cnt3 hkw hlk hlr3 hlt hg3 hs3 hen
      have HLR3 := hide hlr3; have HKW := hide hkw; have HLK := hide hlk
      have hg3' := hg3
      obtain ⟨c, hc⟩ : ∃ c, c = F2 k := ⟨_, rfl⟩
      have HC := hide hc
      rw [← hc] at hen ⊢
      have hcb := HR2.out k
      rw [← hc] at hcb
      obtain ⟨hc0, hc1⟩ := hcb
      obtain ⟨kx, ky, kn⟩ := k
      unfold keyV at hen ⊢
      simp only at hen ⊢
      clear hlr3 hkw hlk hc hg3
      go_upto_region 3 with fail
      obtain ⟨k, hk⟩ : ∃ k : Key, k = ⟨kx, ky, kn⟩ := ⟨_, rfl⟩
      have HKE := hide hk
      rw [← hk] at HLR3 HKW HLK HC
      have HX : Hid (k.x = kx ∧ k.y = ky ∧ k.n = kn) := hide (by rw [hk]; exact ⟨rfl, rfl, rfl⟩)
      clear hk
      obtain ⟨G, hG⟩ : ∃ G, G = wr.heap.size := ⟨_, rfl⟩
      have hgen : ∃ w4, w4 = w3.alloc (.cells #[.int .i64 kx, .int .i64 ky, .int .i64 kn] 116) := ⟨_, rfl⟩
      obtain ⟨w4, hw4⟩ := hgen
      have hal : Below w3.heap.size w3 w4 := by rw [hw4]; exact (Below.refl _ _).alloc (Nat.le_refl _) _
      have hkc : w4.heap[G]? = some (.cells #[.int .i64 k.x, .int .i64 k.y, .int .i64 k.n] 116 (0, 0)) := by
        rw [hw4, hG, ← hs3, HX.out.1, HX.out.2.1, HX.out.2.2]; exact heap_alloc_new w3 _
      have HKC := hide hkc
      have HL4 := hide (lr_below HLR3.out hal)
      have HM4 := hide (lm_below (lm_grown HM.out hg3' (by simp; omega)) hal)
      have HG4 := hide (World.grownBy.andThen (World.grownBy.andThen HG.out hg3' (fun j hj => by cases hj; left; rw [HRR.out]; exact Nat.le_refl _)) (grown_of_below hal none) (fun j hj => by cases hj))
      rw [← hw4, ← hG]
      have hb1G : b1 < G := by rw [hG]; exact hb1w
      have hrG : r < G := by rw [hG]; exact hrw
      clear hal hkc hg3' hw4 hs3
      obtain ⟨E0, E1, st, hE0, hE⟩ := lm_ent HM4.out (by unfold maxLen; omega) HKW.out
      have HEn := hide hE; have HE0 := hide hE0
      clear hE hE0
      have hf : lessK A2 F1 F2 left k = F1 k := by
        unfold lessK; rw [if_neg (fun h => by rw [HLK.out] at h; cases h.2)]; omega
      have hfb := HR1.out k
      rw [← hf] at hfb
      obtain ⟨f, hff⟩ : ∃ f, f = lessK A2 F1 F2 left k := ⟨_, rfl⟩
      have HF := hide hff
      have HF1 : Hid (f = F1 k) := hide (by rw [hff, hf])
      rw [← hff] at hfb
      obtain ⟨hf0, hf1⟩ := hfb
      clear hff hf
      have l1 : IntKind.i64.wrap (f - c) = f - c := IntWalk.i64_in _ (by omega)
      obtain ⟨fs, hfs⟩ : ∃ fs : List FactP, fs = [isV (.map (some b1)), isV (keyV k), isV (.int .i64 f), isV (.int .i64 c), isV (.int .i64 (f - c)), isB (.tuple #[.int .i64 f, .int .i64 st]) b1 E1, isV (.int .i64 st)] := ⟨_, rfl⟩
      have hst : ∀ f ∈ fs, StableP f := by
        rw [hfs]; intro f hf
        simp only [List.mem_cons, List.not_mem_nil, or_false] at hf
        rcases hf with rfl | rfl | rfl | rfl | rfl | rfl | rfl <;> first | exact stable_v _ | exact stable_b _ _ _
      have hout : ∀ f ∈ fs, OutP b1 E1 f := by
        rw [hfs]; intro f hf
        simp only [List.mem_cons, List.not_mem_nil, or_false] at hf
        rcases hf with rfl | rfl | rfl | rfl | rfl | rfl | rfl <;> first | exact out_v _ _ _ | exact out_b _ _ _
      subst hfs
      refine wp_region_tail (S := fun w5 => w5.heap[G]? = some (.cells #[.int .i64 k.x, .int .i64 k.y, .int .i64 k.n] 116 (0, 0)) ∧ w4.grownBy w5 (some b1) ∧ (w5.heap[b1]? = some E0 ∨ w5.heap[b1]? = some E1)) [isV (.map (some b1)), isV (keyV k), isV (.int .i64 f), isV (.int .i64 c), isV (.int .i64 (f - c)), isB (.tuple #[.int .i64 f, .int .i64 st]) b1 E1, isV (.int .i64 st)] [(0, .map (some b1)), (4, .pointer (some ⟨G, 0, none⟩)), (5, .int .i64 c)] _ _ 7 (by kernel_rfl) rfl rfl (by kernel_rfl) (by kernel_rfl) rfl (by kernel_rfl) ?base ⟨HKC.out, grown_drew _ _, .inl HE0.out⟩ ?ob rfl ?fin
      case base =>
        intro t v ht
        simp only [List.lookup_cons, List.lookup_nil] at ht
        repeat' split at ht
        all_goals first | (cases ht; done) | (obtain rfl := Option.some.inj ht; rename_i hh; obtain rfl := eq_of_beq hh; rfl)
      case ob =>
        exact ⟨obt_move (.map (some b1)) rfl rfl rfl (srt_b 0 rfl),
          obt_one (keyV k) rfl rfl (srt_b 4 rfl) (fun ρ w2 hS hx => exec_loadKey rfl hx hS.1),
          obt_two (.int .i64 f) rfl rfl (srt_j 0 rfl (by kernel_rfl) rfl) (srt_j 1 rfl (by kernel_rfl) rfl) (fun ρ w2 hS hx hy => exec_lookupK rfl hx hy (by rw [HF.out]; exact HEn.out.look w2 hS.2.2)),
          obt_move (.int .i64 c) rfl rfl rfl (srt_b 5 rfl),
          obt_two (.int .i64 (f - c)) rfl rfl (srt_j 2 rfl (by kernel_rfl) rfl) (srt_j 3 rfl (by kernel_rfl) rfl) (fun ρ w2 hS hx hy => by go_simp),
          obt_entry (by have := HEn.out; exact this) rfl (by rw [HF.out]; rfl) rfl (srt_j 0 rfl (by kernel_rfl) rfl) (srt_j 1 rfl (by kernel_rfl) rfl) hout (fun w2 hS => hS.2.2) (fun w2 hS => ⟨(sb_other w2 E1 (by omega)).trans hS.1, grown_trans hS.2.1 (sb_grown w2 _ _), .inr (hS.2.2.elim sb_same sb_same)⟩),
          obt_stamp 5 rfl rfl rfl rfl (by kernel_rfl) rfl,
          trivial⟩
      case fin =>
        intro a' w' h1 h2 h3 hS h4 K hK
        have v13 : a'.tmps.getD 13 undef = .map (some b1) := h4 0 13 rfl (by decide)
        have v19 : a'.tmps.getD 19 undef = .int .i64 st := h4 6 19 rfl (by decide)
        have v17 : a'.tmps.getD 17 undef = .int .i64 (f - c) := h4 4 17 rfl (by decide)
        have hb1' : w'.heap[b1]? = some E1 := (h4 5 18 rfl (by decide)).2
        obtain ⟨E', hrun, hlm'⟩ := HEn.out.store w' (f - c) (WalkArith.wf_i64 (by omega)) hb1'
        refine run_skip (w' := setBlock w' b1 E') (exec_storeK rfl v13 v19 v17 hrun) (hK _ _ ?_)
        have HLE : Hid (∀ z : Key, lessK A2 F1 F2 (fun z => left z && !decide (z = k)) z = setK (lessK A2 F1 F2 left) k (f - c) z) := hide fun z => by
          unfold setK
          by_cases e : z = k
          · subst e
            rw [if_pos rfl]
            unfold lessK
            rw [if_pos ⟨HE.out z HLK.out, by simp⟩, HF1.out, HC.out]
          · rw [if_neg e]
            unfold lessK
            simp only [decide_eq_false e, Bool.not_false, Bool.and_true]
        have HEL : Hid (∀ z : Key, (left z && !decide (z = k)) = true → A2 z = true) := hide fun z hz => by rw [Bool.and_eq_true] at hz; exact HE.out z hz.1
        have HFK : Hid (setK (lessK A2 F1 F2 left) k (f - c) k = f - c) := hide (by unfold setK; rw [if_pos rfl])
        have HQ1 := hide hlm'
        have HQ2 : Hid ((setBlock w' b1 E').heap[G]? = some (.cells #[.int .i64 k.x, .int .i64 k.y, .int .i64 k.n] 116 (0, 0))) := hide ((sb_other w' E' (by omega)).trans hS.1)
        have hgg := grown_trans hS.2.1 (sb_grown w' b1 E')
        have HQ3 := hide (lr_grown HL4.out hgg (by simp; omega) (by simp; omega))
        have HQ4 := hide (grown_trans HG4.out hgg)
        have ha : a' = ⟨List.toArray [.map (some b1), .map (some b2), undef, undef, .pointer (some ⟨G, 0, none⟩), .int .i64 c, .map (some b2), .pointer (some ⟨r, 0, none⟩), .tuple #[.bool true, .agg #[.int .i64 kx, .int .i64 ky, .int .i64 kn], .int .i64 c], .bool true, .tuple #[.agg #[.int .i64 kx, .int .i64 ky, .int .i64 kn], .int .i64 c], .agg #[.int .i64 kx, .int .i64 ky, .int .i64 kn], .int .i64 c, a'.tmps.getD 13 undef, a'.tmps.getD 14 undef, a'.tmps.getD 15 undef, a'.tmps.getD 16 undef, a'.tmps.getD 17 undef, a'.tmps.getD 18 undef, a'.tmps.getD 19 undef, u20, u21, u22, u23, u24, u25], []⟩ := frame_eq _ h1 h2 ⟨(h3 0 (by kernel_rfl)), (h3 1 (by kernel_rfl)), (h3 2 (by kernel_rfl)), (h3 3 (by kernel_rfl)), (h3 4 (by kernel_rfl)), (h3 5 (by kernel_rfl)), (h3 6 (by kernel_rfl)), (h3 7 (by kernel_rfl)), (h3 8 (by kernel_rfl)), (h3 9 (by kernel_rfl)), (h3 10 (by kernel_rfl)), (h3 11 (by kernel_rfl)), (h3 12 (by kernel_rfl)), rfl, rfl, rfl, rfl, rfl, rfl, rfl, (h3 20 (by kernel_rfl)), (h3 21 (by kernel_rfl)), (h3 22 (by kernel_rfl)), (h3 23 (by kernel_rfl)), (h3 24 (by kernel_rfl)), (h3 25 (by kernel_rfl)), trivial⟩
        have hp : a'.put none undef = a' := rfl
        clear hrun hlm' hb1' v13 v19 v17 h1 h2 h3 h4 hS hst hout hgg
        refine (congrArg (fun q => Exit.then _ (Exit.inBlock 1 _) Exit.normal q (setBlock w' b1 E')) (hp.trans ha)).mpr ?_
        generalize a'.tmps.getD 13 undef = q13
        generalize a'.tmps.getD 14 undef = q14
        generalize a'.tmps.getD 15 undef = q15
        generalize a'.tmps.getD 16 undef = q16
        generalize a'.tmps.getD 17 undef = q17
        generalize a'.tmps.getD 18 undef = q18
        generalize a'.tmps.getD 19 undef = q19
        generalize setBlock w' b1 E' = w6 at HQ1 HQ2 HQ3 HQ4 ⊢
        clear hp ha l1 hG
        by_cases h0 : f - c = 0
        · have HZ := hide h0
          have HFK := hide (HFK.out.trans h0)
          clear h0
          go_wp2_with (first | (with_reducible refine wpList_loadKey HQ2.out rfl _ rfl rfl ?_) | ((with_reducible refine wpList_lookupLM w6 rfl _ _ rfl rfl rfl HQ1.out HKW.out ?_); rw [HFK.out]) | (at_delete; refine wpList_deleteLM w6 rfl _ _ rfl rfl rfl HQ1.out HKW.out ?_; intro w7 hd1 hd2 hd3; have HD1 := hide hd1; have HD2 := hide hd2; clear hd1 hd2 hd3))
        
          have HR7 := hide (lr_grown HQ3.out HD2.out (by simp; omega) (by simp; omega))
          have HG7 := hide (grown_trans HQ4.out HD2.out)
          have HM7 : Hid (LM w7 b1 (nn + 1) (thereK (lessK A2 F1 F2 (fun z => left z && !decide (z = k)))) (lessK A2 F1 F2 (fun z => left z && !decide (z = k)))) := hide (lm_congr HD1.out (fun z _ => by
            unfold thereK
            rw [HLE.out z]
            unfold setK
            by_cases e : z = k
            · simp only [if_pos e, HZ.out]; rfl
            · simp only [if_neg e]) (fun z _ => by
            rw [HLE.out z]
            unfold setK
            by_cases e : z = k
            · simp only [if_pos e, HZ.out]
            · simp only [if_neg e]))
          go_frame
          go_roundw
          case rel => exact ⟨_, cnt3, nn + 1, HR7.out, HM7.out, by omega, HEL.out, HG7.out⟩
          case measure => rw [lr_left HR7.out, lr_left HL.out]; exact hlt
        · have HZ := hide h0
          have hz : (f - c == 0) = false := by simp [h0]
          clear h0
          go_wp2_with (first | (with_reducible refine wpList_loadKey HQ2.out rfl _ rfl rfl ?_) | ((with_reducible refine wpList_lookupLM w6 rfl _ _ rfl rfl rfl HQ1.out HKW.out ?_); rw [HFK.out]))
          have HM7 : Hid (LM w6 b1 (nn + 1) (thereK (lessK A2 F1 F2 (fun z => left z && !decide (z = k)))) (lessK A2 F1 F2 (fun z => left z && !decide (z = k)))) := hide (lm_congr HQ1.out (fun z _ => by
            unfold thereK
            rw [HLE.out z]
            unfold setK
            by_cases e : z = k
            · rw [if_pos e, if_pos e]; exact (decide_eq_true HZ.out).symm
            · rw [if_neg e, if_neg e]) (fun z _ => (HLE.out z).symm))
          go_roundw
          case rel => exact ⟨_, cnt3, nn + 1, HQ3.out, HM7.out, by omega, HEL.out, HQ4.out⟩
          case measure => rw [lr_left HQ3.out, lr_left HL.out]; exact hlt
end Go.Proofs.YtcliiefedmiokaaGreat
/-
  LineSums of the program.
-/
namespace Go.Proofs.YtcliiefedmiokaaGreat
open Go.RowKit Go.Maps

theorem exec_dirs1 {ρ : Operand → Value} {o : Oper} {w : World} {x : Operand} {dx dy : Int} (ho : o.op = .buildSlice 113 1 #[(0, x)]) (hx : ρ x = .agg #[.int .i64 dx, .int .i64 dy]) :
    (execOp ρ o).run Tryz.prog w = .ok (.value (.slice (some ⟨w.heap.size, 0, none⟩) 1 1)) (w.alloc (.cells #[.int .i64 dx, .int .i64 dy] 58)) := by
  unfold execOp
  simp only [ho]
  go_simp
theorem exec_dirs2 {ρ : Operand → Value} {o : Oper} {w : World} {x y : Operand} {dx dy ex ey : Int} (ho : o.op = .buildSlice 113 2 #[(0, x), (1, y)]) (hx : ρ x = .agg #[.int .i64 dx, .int .i64 dy]) (hy : ρ y = .agg #[.int .i64 ex, .int .i64 ey]) :
    (execOp ρ o).run Tryz.prog w = .ok (.value (.slice (some ⟨w.heap.size, 0, none⟩) 2 2)) (w.alloc (.cells #[.int .i64 dx, .int .i64 dy, .int .i64 ex, .int .i64 ey] 58)) := by
  unfold execOp
  simp only [ho]
  go_simp
theorem inDirs1 (w : World) (dx dy : Int) : InDirs (w.alloc (.cells #[.int .i64 dx, .int .i64 dy] 58)) (.slice (some ⟨w.heap.size, 0, none⟩) 1 1) [(dx, dy)] := by
  refine ⟨w.heap.size, 1, rfl, by simp, fun i hi => ?_⟩
  have : i = 0 := by simp at hi; omega
  subst this
  exact ⟨by simp [World.cell?_alloc_new], by simp [World.cell?_alloc_new]⟩
theorem inDirs2 (w : World) (dx dy ex ey : Int) : InDirs (w.alloc (.cells #[.int .i64 dx, .int .i64 dy, .int .i64 ex, .int .i64 ey] 58)) (.slice (some ⟨w.heap.size, 0, none⟩) 2 2) [(dx, dy), (ex, ey)] := by
  refine ⟨w.heap.size, 2, rfl, by simp, fun i hi => ?_⟩
  have : i = 0 ∨ i = 1 := by simp at hi; omega
  rcases this with rfl | rfl
  · exact ⟨by simp [World.cell?_alloc_new], by simp [World.cell?_alloc_new]⟩
  · exact ⟨by simp [World.cell?_alloc_new], by simp [World.cell?_alloc_new]⟩

theorem cnt_pos {p : Nat → Bool} {N : Nat} (h : cnt p N ≠ 0) : ∃ i, i < N ∧ p i = true := by
  induction N with
  | zero => exact absurd rfl h
  | succ N ih =>
    cases e : p N with
    | true => exact ⟨N, Nat.lt_succ_self _, e⟩
    | false =>
      rw [cnt_no e] at h
      obtain ⟨i, hi, hp⟩ := ih h
      exact ⟨i, Nat.lt_succ_of_lt hi, hp⟩
/-- The number of black cells on each line. -/
def lineRow (R C : Nat) (f : Nat → Nat → Int) (dx dy : Int) (N : Nat) : List Int := rowF N fun i => (cnt (onL C f (dx, dy) i) (R * C) : Nat)
theorem line_one {R C : Nat} {f : Nat → Nat → Int} {dx dy : Int} (i : Nat) : linesC C f (R * C) ⟨dx, dy, i⟩ [(dx, dy)] = (cnt (onL C f (dx, dy) i) (R * C) : Nat) := by
  simp [linesC, lineC]
theorem line_there {R C N : Nat} {f : Nat → Nat → Int} {dx dy : Int} (hn : Near dx dy) (hR : 1 ≤ R ∧ R ≤ 5) (hC : 1 ≤ C ∧ C ≤ 5) (hN : (N : Int) = countL R C dx dy) (k : Key) (h : thereK (fun k => linesC C f (R * C) k [(dx, dy)]) k = true) : (k.x = dx ∧ k.y = dy) ∧ 0 ≤ k.n ∧ k.n < N := by
  simp only [thereK, linesC, Int.add_zero, decide_eq_true_eq] at h
  unfold lineC at h
  by_cases e : k.x = dx ∧ k.y = dy
  · rw [if_pos e] at h
    obtain ⟨i, hi, hp⟩ := cnt_pos (p := onL C f (dx, dy) k.n) (N := R * C) (by omega)
    simp only [onL, Bool.and_eq_true, beq_iff_eq] at hp
    have hx := Nat.mod_lt i (show C > 0 by omega)
    have hy : i / C < R := Nat.div_lt_of_lt_mul (by rw [Nat.mul_comm]; exact hi)
    generalize i / C = Y at hp hy
    generalize i % C = X at hp hx
    obtain ⟨p1, p2, p3⟩ := lnum_range (rows := R) (cols := C) (y := Y) (x := X) hn (by omega) (by omega) (by omega) (by omega) (by omega) (by omega) (by omega) (by omega)
    refine ⟨e, by omega, ?_⟩
    rw [hN]; unfold countL; omega
  · rw [if_neg e] at h; exact absurd rfl h
theorem countL_size {R C : Nat} {dx dy : Int} (hn : Near dx dy) (hR : 1 ≤ R ∧ R ≤ 5) (hC : 1 ≤ C ∧ C ≤ 5) : ∃ N : Nat, (N : Int) = countL R C dx dy ∧ N ≤ 41 := by
  obtain ⟨p1, p2, -⟩ := lnum_range (rows := R) (cols := C) (y := (R : Int) - 1) (x := 0) hn (by omega) (by omega) (by omega) (by omega) (by omega) (by omega) (by omega) (by omega)
  obtain ⟨q1, q2, -⟩ := lnum_range (rows := R) (cols := C) (y := (R : Int) - 1) (x := (C : Int) - 1) hn (by omega) (by omega) (by omega) (by omega) (by omega) (by omega) (by omega) (by omega)
  refine ⟨(countL R C dx dy).toNat, ?_, ?_⟩ <;> unfold countL <;> omega
theorem countL_nat {R C : Nat} {f : Nat → Nat → Int} {dx dy : Int} (hn : Near dx dy) (hI : Img R C f) : ∃ N : Nat, (N : Int) = countL R C dx dy ∧ N ≤ 41 := countL_size hn ⟨hI.r1, hI.r2⟩ ⟨hI.c1, hI.c2⟩
/-- The sum of the elements on each line. -/
def lineRowE (R C : Nat) (f : Nat → Nat → Int) (dx dy : Int) (N : Nat) : List Int := rowF N fun i => sumF (elL C f (dx, dy) i) (R * C)
theorem line_oneE {R C : Nat} {f : Nat → Nat → Int} {dx dy : Int} (i : Nat) : linesE C f (R * C) ⟨dx, dy, i⟩ [(dx, dy)] = sumF (elL C f (dx, dy) i) (R * C) := by
  simp [linesE, lineE]
theorem lineRow_img {R C : Nat} {f : Nat → Nat → Int} (hI : Img R C f) (dx dy : Int) (N : Nat) : lineRowE R C f dx dy N = lineRow R C f dx dy N := rowF_congr fun i _ => by
  rw [← line_oneE, ← line_one, img_linesE hI]

set_option maxHeartbeats 400000 in
theorem implLineSums_img (v : Value) (m : List (List Int)) (dx dy : Int) (w : World) (hin : InMat w v m) (h : okB m = false) :
    Calls Tryz.prog 43 #[v, .agg #[.int .i64 dx, .int .i64 dy]] w (IntsRes [] w) := by
  have HB := hide ((Below.refl w.heap.size w).alloc (Nat.le_refl _) (.cells #[.int .i64 dx, .int .i64 dy] 58))
  have HI := hide (inMat_below hin HB.out); have H := hide h
  clear hin h
  go_enter Tryz.func43, Tryz.ntmps43
  go_wp2_with ((with_reducible refine (implImageOk_any v m _ HI.out).mono ?_); rw [H.out]; rintro e w' ⟨rfl, rfl⟩)
  go_ret
  exact intsRes_nil HB.out
set_option maxHeartbeats 400000 in
theorem implLineSums_dir (v : Value) (m : List (List Int)) (dx dy : Int) (w : World) (hin : InMat w v m) (h : okB m = true) (hd : dirOk dx dy = false) :
    Calls Tryz.prog 43 #[v, .agg #[.int .i64 dx, .int .i64 dy]] w (IntsRes [] w) := by
  have HB := hide ((Below.refl w.heap.size w).alloc (Nat.le_refl _) (.cells #[.int .i64 dx, .int .i64 dy] 58))
  have HI := hide (inMat_below hin HB.out); have H := hide h; have HD := hide hd
  clear hin h hd
  go_enter Tryz.func43, Tryz.ntmps43
  go_wp2_with (first | ((with_reducible refine (implImageOk_any v m _ HI.out).mono ?_); rw [H.out]; rintro e w' ⟨rfl, rfl⟩) | ((with_reducible refine (implDirectionOk_any dx dy _).mono ?_); rw [HD.out]; rintro e w1 ⟨rfl, hb⟩; have HB1 := hide (HB.out.trans (hb.mono HB.out.size)); clear hb))
  go_ret
  exact intsRes_nil HB1.out

set_option maxRecDepth 100000 in
set_option maxHeartbeats 2000000 in
theorem sumsAlong_any (v : Value) (R C N : Nat) (f : Nat → Nat → Int) (dx dy : Int) (w : World) (hin : InMat w v (mkM R C f)) (hR : 1 ≤ R ∧ R ≤ 5) (hC : 1 ≤ C ∧ C ≤ 5) (hS : Small R C f) (hd : dirOk dx dy = true) (hN : (N : Int) = countL R C dx dy) (hN2 : N ≤ 41) :
    Calls Tryz.prog 88 #[v, .agg #[.int .i64 dx, .int .i64 dy]] w (IntsRes (lineRowE R C f dx dy N) w) := by
  have hb0 := (Below.refl w.heap.size w).alloc (Nat.le_refl _) (.cells #[.int .i64 dx, .int .i64 dy] 58)
  have HM := hide hin
  have HRR := hide hR; have HCC := hide hC; have HSM := hide hS; have HD := hide hd; have HN := hide (near_of hd); have HNN := hide hN
  have HB0 := hide hb0
  have HZ : Hid ((sizeOk R C && dirOk dx dy) = true) := hide (by rw [hd, sizeOk, decide_eq_true (show (1 : Int) ≤ R ∧ (R : Int) ≤ 5 by omega), decide_eq_true (show (1 : Int) ≤ C ∧ (C : Int) ≤ 5 by omega)]; rfl)
  obtain ⟨g, o, cap, rfl, hg, hrow⟩ := inMat_img hin (by omega) (by omega)
  obtain ⟨g', o', c', hcr, hg', -⟩ := hrow 0 (by omega)
  have hR0 : 0 < R := by omega
  rw [Nat.add_zero] at hcr
  have HCR := hide hcr
  have HG0 := hide (show DirAt (w.alloc (.cells #[.int .i64 dx, .int .i64 dy] 58)) w.heap.size dx dy from heap_alloc_new w _)
  clear hin hd hN hrow hb0 hcr hS hR hC
  go_enter Tryz.func88, Tryz.ntmps88
  go_upto_region 1 with fail
  obtain ⟨fs, hfs⟩ : ∃ fs : List FactP, fs = [(isV (.slice (some ⟨g, o, none⟩) R cap)), (isV (.agg #[.int .i64 dx, .int .i64 dy])), (fun u w2 => InDirs w2 u [(dx, dy)]), (fun u w2 => ∃ b, u = .map (some b) ∧ LM w2 b 50 (thereK (fun k => linesC C (nzF f) (R * C) k [(dx, dy)])) (fun k => linesE C f (R * C) k [(dx, dy)])), (isV (.slice (some ⟨g, o, none⟩) R cap)), (isV (.int .i64 R)), (isV (.slice (some ⟨g, o, none⟩) R cap)), (isV (.pointer (some ⟨g, o, none⟩))), (isV (.slice (some ⟨g', o', none⟩) C c')), (isV (.int .i64 C)), (isV (.agg #[.int .i64 dx, .int .i64 dy])), (isV (.int .i64 N)), (fun u w2 => w2.ownsRow w.heap.size 3 1 u N (ints (rowF N fun i => linesE C f (R * C) ⟨dx, dy, i⟩ [(dx, dy)])))] := ⟨_, rfl⟩
  have hst : ∀ f ∈ fs, StableP f := by
    rw [hfs]; intro f hf
    simp only [List.mem_cons, List.not_mem_nil, or_false] at hf
    rcases hf with rfl | rfl | rfl | rfl | rfl | rfl | rfl | rfl | rfl | rfl | rfl | rfl | rfl <;> first | exact stable_v _ | exact fun u w2 w3 hb h => inDirs_below h hb | exact fun u w2 w3 hb h => ⟨h.choose, h.choose_spec.1, lm_below h.choose_spec.2 hb⟩ | exact fun u w2 w3 hb h => own_below h hb
  subst hfs
  refine wp_region_tail (S := fun w2 => DirAt w2 w.heap.size dx dy ∧ Below w.heap.size w w2) [(isV (.slice (some ⟨g, o, none⟩) R cap)), (isV (.agg #[.int .i64 dx, .int .i64 dy])), (fun u w2 => InDirs w2 u [(dx, dy)]), (fun u w2 => ∃ b, u = .map (some b) ∧ LM w2 b 50 (thereK (fun k => linesC C (nzF f) (R * C) k [(dx, dy)])) (fun k => linesE C f (R * C) k [(dx, dy)])), (isV (.slice (some ⟨g, o, none⟩) R cap)), (isV (.int .i64 R)), (isV (.slice (some ⟨g, o, none⟩) R cap)), (isV (.pointer (some ⟨g, o, none⟩))), (isV (.slice (some ⟨g', o', none⟩) C c')), (isV (.int .i64 C)), (isV (.agg #[.int .i64 dx, .int .i64 dy])), (isV (.int .i64 N)), (fun u w2 => w2.ownsRow w.heap.size 3 1 u N (ints (rowF N fun i => linesE C f (R * C) ⟨dx, dy, i⟩ [(dx, dy)])))] [(0, .slice (some ⟨g, o, none⟩) R cap), (3, .pointer (some ⟨w.heap.size, 0, none⟩))] _ _ 13 (by kernel_rfl) rfl rfl (by kernel_rfl) (by kernel_rfl) rfl (by kernel_rfl) ?base ⟨HG0.out, below_drew HB0.out⟩ ?ob rfl ?fin
  case base =>
    intro t v ht
    simp only [List.lookup_cons, List.lookup_nil] at ht
    repeat' split at ht
    all_goals first | (cases ht; done) | (obtain rfl := Option.some.inj ht; rename_i hh; obtain rfl := eq_of_beq hh; rfl)
  case ob =>
    exact ⟨obt_move (.slice (some ⟨g, o, none⟩) R cap) rfl rfl rfl (srt_b 0 rfl),
      obt_one (.agg #[.int .i64 dx, .int .i64 dy]) rfl rfl (srt_b 3 rfl) (fun ρ w2 hS hx => exec_loadDir rfl hx hS.1),
      obt_make hst rfl (fun a w2 hS hs => by
      have hh : Below w2.heap.size w2 (w2.alloc (.cells #[.int .i64 dx, .int .i64 dy] 58)) := (Below.refl _ _).alloc (Nat.le_refl _) _
      exact ⟨_, _, exec_dirs1 rfl (hs _ _ (srt_j 1 rfl (by kernel_rfl) rfl)), ⟨dirAt_below hS.1 hh, hS.2.trans (hh.mono hS.2.size)⟩, hh, inDirs1 w2 dx dy⟩),
      obt_call_r hst 2 rfl Tryz.func50 (by kernel_rfl) (by kernel_rfl) rfl rfl (by kernel_rfl) (srt_j 0 rfl (by kernel_rfl) rfl) (fun v w2 hS hf => (lineMapOf_el _ v R C f [(dx, dy)] w2 (inMat_below HM.out hS.2) HRR.out HCC.out HSM.out hf (by simp) (fun d hd => by simp only [List.mem_singleton] at hd; subst hd; exact HN.out)).mono fun e w3 ⟨b, he, _, hl, hh⟩ => ⟨_, he, ⟨dirAt_below hS.1 hh, hS.2.trans (hh.mono hS.2.size)⟩, hh, b, rfl, hl⟩),
      obt_move (.slice (some ⟨g, o, none⟩) R cap) rfl rfl rfl (srt_b 0 rfl),
      obt_one (.int .i64 R) rfl rfl (srt_j 4 rfl (by kernel_rfl) rfl) (fun ρ w2 hS hx => by go_simp),
      obt_move (.slice (some ⟨g, o, none⟩) R cap) rfl rfl rfl (srt_b 0 rfl),
      obt_two (.pointer (some ⟨g, o, none⟩)) rfl rfl (srt_j 6 rfl (by kernel_rfl) rfl) (srt_c (v := .int .i64 0)) (fun ρ w2 hS hx hy => by go_simp),
      obt_one (.slice (some ⟨g', o', none⟩) C c') rfl rfl (srt_j 7 rfl (by kernel_rfl) rfl) (fun ρ w2 hS hx => by have hc := below_cell hS.2 hg HCR.out; go_simp),
      obt_one (.int .i64 C) rfl rfl (srt_j 8 rfl (by kernel_rfl) rfl) (fun ρ w2 hS hx => by go_simp),
      obt_one (.agg #[.int .i64 dx, .int .i64 dy]) rfl rfl (srt_b 3 rfl) (fun ρ w2 hS hx => exec_loadDir rfl hx hS.1),
      obt_call hst [.int .i64 R, .int .i64 C, .agg #[.int .i64 dx, .int .i64 dy]] rfl Tryz.func122 (by kernel_rfl) (by kernel_rfl) rfl ⟨(srt_j 5 rfl (by kernel_rfl) rfl), (srt_j 9 rfl (by kernel_rfl) rfl), (srt_j 10 rfl (by kernel_rfl) rfl), trivial⟩ (fun w2 hS => (implCountLines_any R C dx dy w2).mono fun e w3 ⟨he, hh⟩ => ⟨_, he, ⟨dirAt_below hS.1 hh, hS.2.trans (hh.mono hS.2.size)⟩, hh, by rw [if_pos HZ.out, ← HNN.out]; rfl⟩),
      obt_call_l hst 3 rfl Tryz.func121 (by kernel_rfl) (by kernel_rfl) rfl rfl (by kernel_rfl) (srt_j 11 rfl (by kernel_rfl) rfl) (fun v w2 hS hf => by
      obtain ⟨b, rfl, hl⟩ := hf
      exact (list_any b 50 N _ _ dx dy w2 hl (fun k _ hk => line_there HN.out HRR.out HCC.out HNN.out k hk) (by omega) (WalkArith.wf_i64 (by have := HN.out.x1; have := HN.out.x2; omega)) (WalkArith.wf_i64 (by have := HN.out.y1; have := HN.out.y2; omega))).mono fun e w3 ⟨u, he, ho, hh⟩ => ⟨_, he, ⟨dirAt_below hS.1 hh, hS.2.trans (hh.mono hS.2.size)⟩, hh, own_base ho hS.2.size⟩),
      trivial⟩
  case fin =>
    intro a' w' h1 h2 h3 hS h4 K hK
    obtain ⟨u, HU⟩ : ∃ u, Hid (a'.eval (.tmp 17) = u) := ⟨_, hide rfl⟩
    have HO := hide (h4 12 17 rfl (by decide))
    refine tail_assign rfl HU.out ?_ K hK
    go_wp2
    refine bodyPost_ret (results_tmp rfl _ _ _) rfl ⟨u, congrArg Ending.returned (set_get (d := 4) (n := 18) h1 (by decide)), ?_, hS.2⟩
    have e : lineRowE R C f dx dy N = rowF N fun i => linesE C f (R * C) ⟨dx, dy, i⟩ [(dx, dy)] := rowF_congr fun i _ => (line_oneE i).symm
    rw [e, rowF_len, ← HU.out]; exact HO.out

set_option maxHeartbeats 1000000 in
theorem implLineSums_yes (v : Value) (R C N : Nat) (f : Nat → Nat → Int) (dx dy : Int) (w : World) (hin : InMat w v (mkM R C f)) (hI : Img R C f) (hd : dirOk dx dy = true) (hN : (N : Int) = countL R C dx dy) (hN2 : N ≤ 41) :
    Calls Tryz.prog 43 #[v, .agg #[.int .i64 dx, .int .i64 dy]] w (IntsRes (lineRow R C f dx dy N) w) := by
  have HB := hide ((Below.refl w.heap.size w).alloc (Nat.le_refl _) (.cells #[.int .i64 dx, .int .i64 dy] 58))
  have HM := hide hin; have HI := hide (inMat_below hin HB.out); have H := hide (img_ok hI); have HD := hide hd
  have HG0 := hide (show DirAt (w.alloc (.cells #[.int .i64 dx, .int .i64 dy] 58)) w.heap.size dx dy from heap_alloc_new w _)
  have HS := hide fun w h => sumsAlong_any v R C N f dx dy w h ⟨hI.r1, hI.r2⟩ ⟨hI.c1, hI.c2⟩ (img_small hI) hd hN hN2
  have HE := hide (lineRow_img hI dx dy N)
  clear hin hI hd hN
  go_enter Tryz.func43, Tryz.ntmps43
  go_wp2_with (first | ((with_reducible refine (implImageOk_any _ _ _ HI.out).mono ?_); rw [H.out]; rintro e w' ⟨rfl, rfl⟩) | ((with_reducible refine (implDirectionOk_any dx dy _).mono ?_); rw [HD.out]; rintro e w1 ⟨rfl, hb⟩; have HB1 := hide (HB.out.trans (hb.mono HB.out.size)); have HG1 := hide (dirAt_below HG0.out hb); clear hb) | (with_reducible refine wpList_loadDir HG1.out rfl _ rfl rfl ?_) | ((with_reducible refine (HS.out _ (inMat_below HM.out HB1.out)).mono ?_); rintro e w2 ⟨u, rfl, ho, hb⟩; have HO := hide ho; have HB2 := hide (HB1.out.trans (hb.mono HB1.out.size)); have hs := HB1.out.size; clear ho hb))
  go_ret
  exact ⟨_, rfl, by rw [← HE.out]; exact own_base HO.out hs, HB2.out⟩
end Go.Proofs.YtcliiefedmiokaaGreat
/-
  Numbers of black cells by rows, by columns and by lines.
-/
namespace Go.Proofs.YtcliiefedmiokaaGreat
open Go.RowKit

theorem cnt_add (p : Nat → Bool) (b : Nat) : ∀ C, cnt p (b + C) = cnt p b + cnt (fun x => p (b + x)) C
  | 0 => rfl
  | C + 1 => by
    have := cnt_add p b C
    rw [← Nat.add_assoc, cnt, cnt, this]; omega
theorem cnt_congr {p q : Nat → Bool} : ∀ {N : Nat}, (∀ i, i < N → p i = q i) → cnt p N = cnt q N
  | 0, _ => rfl
  | N + 1, h => by rw [cnt, cnt, cnt_congr fun i hi => h i (by omega), h N (by omega)]
theorem cnt_none {p : Nat → Bool} {N : Nat} (h : ∀ i, i < N → p i = false) : cnt p N = 0 := cnt_skip (k := 0) (Nat.zero_le _) fun i _ hi => h i hi
theorem cnt_only {p : Nat → Bool} {N j : Nat} (hj : j < N) (h : ∀ i, i < N → i ≠ j → p i = false) : cnt p N = if p j = true then 1 else 0 := by
  have h1 : cnt p N = cnt p (j + 1) := cnt_skip (by omega) fun i h1 h2 => h i h2 (by omega)
  have h2 : cnt p j = 0 := cnt_none fun i hi => h i (by omega) (by omega)
  rw [h1, cnt, h2]; omega
theorem lnum_row (C y x : Nat) : lnum 1 0 C y x = y := by simp [lnum, least]
theorem lnum_col (C y x : Nat) (hx : x < C) : lnum 0 1 C y x = (C : Int) - 1 - x := by unfold lnum least; omega
theorem cnt_rows (C : Nat) (f : Nat → Nat → Int) (n : Int) : ∀ Y : Nat, cnt (onL C f (1, 0) n) (C * Y) = if 0 ≤ n ∧ n < Y then rs C f n.toNat else 0
  | 0 => by rw [if_neg (by omega)]; rfl
  | Y + 1 => by
    have h1 : cnt (fun x => onL C f (1, 0) n (C * Y + x)) C = if n = Y then rs C f Y else 0 := by
      by_cases e : n = Y
      · rw [if_pos e]
        refine cnt_congr fun x hx => ?_
        rw [onL_at hx]
        simp only [lnum_row, e]; simp
      · rw [if_neg e]
        refine cnt_none fun x hx => ?_
        rw [onL_at hx]
        simp only [lnum_row]
        have : ((Y : Int) == n) = false := by simp; omega
        rw [this, Bool.and_false]
    rw [Nat.mul_succ, cnt_add, cnt_rows C f n Y, h1]
    by_cases e : n = Y
    · rw [if_pos e, if_neg (by omega), if_pos (by omega), Nat.zero_add]
      congr 1; omega
    · rw [if_neg e, Nat.add_zero]
      by_cases h : 0 ≤ n ∧ n < Y
      · rw [if_pos h, if_pos (by omega)]
      · rw [if_neg h, if_neg (by omega)]
theorem cnt_cols (C : Nat) (f : Nat → Nat → Int) (n : Int) : ∀ Y : Nat, cnt (onL C f (0, 1) n) (C * Y) = if 0 ≤ n ∧ n < C then cs Y f (C - 1 - n.toNat) else 0
  | 0 => by split <;> rfl
  | Y + 1 => by
    rw [Nat.mul_succ, cnt_add, cnt_cols C f n Y]
    by_cases h : 0 ≤ n ∧ n < C
    · rw [if_pos h, if_pos h]
      have hj : C - 1 - n.toNat < C := by omega
      have h1 : cnt (fun x => onL C f (0, 1) n (C * Y + x)) C = if (f Y (C - 1 - n.toNat) == 1) = true then 1 else 0 := by
        rw [cnt_only hj fun x hx hne => ?_]
        · have e : onL C f (0, 1) n (C * Y + (C - 1 - n.toNat)) = (f Y (C - 1 - n.toNat) == 1) := by
            rw [onL_at hj, lnum_col C Y _ hj]
            have : ((C : Int) - 1 - ((C - 1 - n.toNat : Nat) : Int) == n) = true := by simp; omega
            rw [this, Bool.and_true]
          simp only [e]
        · rw [onL_at hx, lnum_col C Y x hx]
          have : ((C : Int) - 1 - (x : Int) == n) = false := by simp; omega
          rw [this, Bool.and_false]
      rw [h1]; rfl
    · rw [if_neg h, if_neg h, Nat.zero_add]
      refine cnt_none fun x hx => ?_
      rw [onL_at hx, lnum_col C Y x hx]
      have : ((C : Int) - 1 - (x : Int) == n) = false := by simp; omega
      rw [this, Bool.and_false]
theorem lineRow_rows (R C : Nat) (f : Nat → Nat → Int) : lineRow R C f 1 0 R = rowsL R C f := rowF_congr fun i hi => by
  rw [Nat.mul_comm R C, cnt_rows, if_pos (by omega)]; rfl
theorem countL_rows (R C : Nat) : countL R C 1 0 = R := by unfold countL lnum least; omega
end Go.Proofs.YtcliiefedmiokaaGreat
/-
  RowSums of the model.
-/
namespace Go.Proofs.YtcliiefedmiokaaGreat
open Go.RowKit

end Go.Proofs.YtcliiefedmiokaaGreat
/-
  RowSums of both.
-/
namespace Go.Proofs.YtcliiefedmiokaaGreat
open Go.RowKit

theorem alongRows_any (w : World) : Calls Tryz.prog 44 #[] w fun e w' => e = .returned (.agg #[.int .i64 1, .int .i64 0]) ∧ Below w.heap.size w w' := by
  go_enter Tryz.func44, Tryz.ntmps44
  go_wp2
  exact bodyPost_ret (v := .agg #[.int .i64 1, .int .i64 0]) (by simp [results, Tryz.results44, go_sem]) rfl ⟨rfl, (Below.refl _ _).alloc (Nat.le_refl _) _⟩
theorem alongCols_any (w : World) : Calls Tryz.prog 51 #[] w fun e w' => e = .returned (.agg #[.int .i64 0, .int .i64 1]) ∧ Below w.heap.size w w' := by
  go_enter Tryz.func51, Tryz.ntmps51
  go_wp2
  exact bodyPost_ret (v := .agg #[.int .i64 0, .int .i64 1]) (by simp [results, Tryz.results51, go_sem]) rfl ⟨rfl, (Below.refl _ _).alloc (Nat.le_refl _) _⟩

theorem implRowSums_no (v : Value) (m : List (List Int)) (w : World) (hin : InMat w v m) (h : okB m = false) :
    Calls Tryz.prog 13 #[v] w (IntsRes [] w) := by
  have HI := hide hin; have H := hide h
  clear hin h
  go_enter Tryz.func13, Tryz.ntmps13
  go_wp2_with fail
  refine (alongRows_any _).mono ?_
  rintro e w1 ⟨rfl, hb⟩
  have HB := hide hb
  clear hb
  go_wp2_with fail
  refine (implLineSums_img v m 1 0 _ (inMat_below HI.out HB.out) H.out).mono ?_
  rintro e w2 ⟨u, rfl, ho, hb⟩
  have HO := hide (own_base ho HB.out.size); have HB2 := hide (HB.out.trans (hb.mono HB.out.size))
  clear ho hb
  go_wp2
  go_ret
  exact ⟨_, rfl, HO.out, HB2.out⟩
theorem implRowSums_yes (v : Value) (R C : Nat) (f : Nat → Nat → Int) (w : World) (hin : InMat w v (mkM R C f)) (hI : Img R C f) :
    Calls Tryz.prog 13 #[v] w (IntsRes (rowsL R C f) w) := by
  have HI := hide hin; have H := hide hI
  rw [← lineRow_rows]
  clear hin hI
  go_enter Tryz.func13, Tryz.ntmps13
  go_wp2_with fail
  refine (alongRows_any _).mono ?_
  rintro e w1 ⟨rfl, hb⟩
  have HB := hide hb
  clear hb
  go_wp2_with fail
  refine (implLineSums_yes v R C R f 1 0 _ (inMat_below HI.out HB.out) H.out (by decide) (countL_rows R C).symm (by have := H.out.r2; omega)).mono ?_
  rintro e w2 ⟨u, rfl, ho, hb⟩
  have HO := hide (own_base ho HB.out.size); have HB2 := hide (HB.out.trans (hb.mono HB.out.size))
  clear ho hb
  go_wp2
  go_ret
  exact ⟨_, rfl, HO.out, HB2.out⟩

end Go.Proofs.YtcliiefedmiokaaGreat
/-
  l02Empty of the model.
-/
namespace Go.Proofs.YtcliiefedmiokaaGreat
open Go.RowKit

set_option maxHeartbeats 1000000 in
theorem l02Empty_any (R C : Nat) (w : World) (hR : R ≤ 5) (hC : C ≤ 5) :
    Calls Tryz.prog 65 #[.int .i64 R, .int .i64 C] w (MatRes (mkM R C zeroM) w) := by
  have HZ : Hid (ints (rowF C (zeroM 0)) = List.replicate C (.int .i64 0)) := hide (by
    apply List.ext_getElem
    · simp [ints, rowF]
    · intro i h1 h2; simp [ints, rowF, zeroM])
  go_enter Tryz.func65, Tryz.ntmps65
  go_wp2
  go_loopw [5, 6] (fun o i w' => ∃ (y : Nat) (v : Value), y ≤ R ∧ i = .int .i64 y ∧ v = o ∧ OwnMat w' w.heap.size w'.heap.size v (mkM y C zeroM) ∧ Below w.heap.size w w') (fun _ i _ => R - (intOf i).toNat)
  case atStart => exact ⟨0, _, by omega, rfl, rfl, ⟨[], World.ownsRow_made (base := w.heap.size) w #[] 0 (Nat.le_refl _) (Nat.zero_le _) rfl, (fun k e => by simp [Value.ownBlock] at e; subst e; simp), (fun i h => absurd h (Nat.not_lt_zero _)), fun i j _ h => absurd h (Nat.not_lt_zero _)⟩, (Below.refl _ _).alloc (Nat.le_refl _) _⟩
  case round =>
    obtain ⟨y, v, hy, rfl, rfl, hown, hb⟩ := hrel
    have HO := hide hown; have HB := hide hb
    clear hown hb
    by_cases hlt : y < R
    · have hyI : (y : Int) < R := by omega
      have hsz := HB.out.size
      go_wp2_with (first | (at_make; refine wpList_new wr.heap.size C (.int .i64 0) rfl _ _ rfl Tryz.underlying30 Tryz.infoInt rfl (by decide) rfl rfl (by omega) (Nat.le_refl _) ?_; intro w1 hown1 hb1 hg1; have O1 := hide (ownMat_below HO.out hb1); have HU : Hid (w1.ownsRow wr.heap.size 3 1 (.slice (some ⟨wr.heap.size, 0, none⟩) C C) (rowF C (zeroM y)).length (ints (rowF C (zeroM y)))) := hide (by rw [rowF_len, show ints (rowF C (zeroM y)) = List.replicate C (.int .i64 0) from HZ.out]; exact hown1); have HB1 := hide (HB.out.trans (hb1.mono hsz)); have hs1 := hb1.size; clear hown1 hb1 hg1; obtain ⟨vs, hv, hvh, hvr, hva⟩ := O1.out; have hvl := mkM_len y C zeroM; rw [hvl] at hv; have HV := hide hv; have HVR := hide hvr; have HVA := hide hva; clear hv hvh hvr hva hvl) | (at_builtin; refine wpList_push HV.out (.slice (some ⟨wr.heap.size, 0, none⟩) C C) (.slice none 0 0) rfl _ _ rfl Tryz.underlying22 Tryz.infoInts rfl (by decide) rfl rfl rfl (by omega) (by omega) ?_; intro v' w6 hown1 hb1 hg1))
      go_roundw
      case rel =>
        have hs6 := hb1.size
        have hp := ownMat_push (r := rowF C (zeroM y)) (hi' := w6.heap.size) HVR.out HVA.out (by rw [mkM_len]; exact HV.out) (by rw [rowF_len]; have := HU.out; rw [rowF_len] at this; exact this) hsz (by omega) (by omega) hg1 (by rw [mkM_len]; exact hown1) (fun k e => (hown1.lt k e).2)
        rw [← mkM_succ] at hp
        exact ⟨y + 1, _, by omega, by go_num, rfl, hp, HB1.out.trans (hb1.mono (by omega))⟩
      case measure => simp [intOf]; omega
    · obtain rfl : y = R := by omega
      go_wp2
      go_ret
      exact ⟨_, rfl, HO.out, HB.out⟩

end Go.Proofs.YtcliiefedmiokaaGreat
/-
  Switches, pure: the four cells, an image after a switch, lists of switches in order, paths.
-/
namespace Go.Proofs.YtcliiefedmiokaaGreat

/-- A switch: two rows and two columns. -/
structure Sw where
  y1 : Int
  y2 : Int
  x1 : Int
  x2 : Int
instance : DecidableEq Sw := fun a b =>
  if h : a.y1 = b.y1 ∧ a.y2 = b.y2 ∧ a.x1 = b.x1 ∧ a.x2 = b.x2 then isTrue (by obtain ⟨a1, a2, a3, a4⟩ := a; obtain ⟨b1, b2, b3, b4⟩ := b; simp only at h; obtain ⟨rfl, rfl, rfl, rfl⟩ := h; rfl)
  else isFalse fun e => h (by rw [e]; exact ⟨rfl, rfl, rfl, rfl⟩)
def zeroSw : Sw := ⟨0, 0, 0, 0⟩
/-- The cell of a list. -/
def cellM (m : List (List Int)) (y x : Nat) : Int := (m.getD y []).getD x 0
theorem cell_mk (R C : Nat) (f : Nat → Nat → Int) {y x : Nat} (hy : y < R) (hx : x < C) : cellM (mkM R C f) y x = f y x := by
  simp [cellM, mkM, rowF, hy, hx]
theorem mk_cell (R C : Nat) (f : Nat → Nat → Int) : mkM R C (cellM (mkM R C f)) = mkM R C f := mkM_congr fun _ _ hy hx => cell_mk R C f hy hx
/-- The four cells of a switch, by number. -/
def four (R C : Nat) (f : Nat → Nat → Int) (a b c d : Nat) : Bool :=
  decide (a < b) && decide (c < d) && decide (b < R) && decide (d < C) && decide (f b d = f a c) && decide (f a d = 1 - f a c) && decide (f b c = 1 - f a c)
theorem four_iff {R C : Nat} {f : Nat → Nat → Int} {a b c d : Nat} : four R C f a b c d = true ↔ a < b ∧ c < d ∧ b < R ∧ d < C ∧ f b d = f a c ∧ f a d = 1 - f a c ∧ f b c = 1 - f a c := by
  simp [four, Bool.and_eq_true, and_assoc]
/-- A switch of an image. -/
def swF (R C : Nat) (f : Nat → Nat → Int) (s : Sw) : Bool :=
  decide (0 ≤ s.y1) && decide (0 ≤ s.x1) && decide (s.y1 < s.y2) && decide (s.x1 < s.x2) && four R C f s.y1.toNat s.y2.toNat s.x1.toNat s.x2.toNat
theorem swF_iff {R C : Nat} {f : Nat → Nat → Int} {s : Sw} : swF R C f s = true ↔ ∃ a b c d : Nat, s = ⟨a, b, c, d⟩ ∧ four R C f a b c d = true := by
  constructor
  · intro h
    simp only [swF, Bool.and_eq_true, decide_eq_true_eq] at h
    obtain ⟨⟨⟨⟨h1, h2⟩, h3⟩, h4⟩, h5⟩ := h
    refine ⟨_, _, _, _, ?_, h5⟩
    obtain ⟨y1, y2, x1, x2⟩ := s
    simp only at h1 h2 h3 h4 ⊢
    rw [Int.toNat_of_nonneg h1, Int.toNat_of_nonneg (by omega), Int.toNat_of_nonneg h2, Int.toNat_of_nonneg (by omega)]
  · rintro ⟨a, b, c, d, rfl, h⟩
    have := four_iff.1 h
    simp only [swF, Bool.and_eq_true, decide_eq_true_eq]
    exact ⟨⟨⟨⟨by omega, by omega⟩, by omega⟩, by omega⟩, by simpa using h⟩
theorem four_congr {R C : Nat} {f g : Nat → Nat → Int} (h : ∀ y x, y < R → x < C → f y x = g y x) (a b c d : Nat) : four R C f a b c d = four R C g a b c d := by
  rw [Bool.eq_iff_iff, four_iff, four_iff]
  constructor
  · rintro ⟨h1, h2, h3, h4, h5⟩
    rw [h b d h3 h4, h a c (by omega) (by omega), h a d (by omega) h4, h b c h3 (by omega)] at h5
    exact ⟨h1, h2, h3, h4, h5⟩
  · rintro ⟨h1, h2, h3, h4, h5⟩
    rw [← h b d h3 h4, ← h a c (by omega) (by omega), ← h a d (by omega) h4, ← h b c h3 (by omega)] at h5
    exact ⟨h1, h2, h3, h4, h5⟩
theorem swF_congr {R C : Nat} {f g : Nat → Nat → Int} (h : ∀ y x, y < R → x < C → f y x = g y x) (s : Sw) : swF R C f s = swF R C g s := by
  unfold swF; rw [four_congr h]
/-- The cells after a switch. -/
def flipN (f : Nat → Nat → Int) (a b c d : Nat) (y x : Nat) : Int := if (y = a ∨ y = b) ∧ (x = c ∨ x = d) then 1 - f y x else f y x
def flipF (f : Nat → Nat → Int) (s : Sw) : Nat → Nat → Int := flipN f s.y1.toNat s.y2.toNat s.x1.toNat s.x2.toNat
theorem flipN_img {R C : Nat} {f : Nat → Nat → Int} (h : Img R C f) (a b c d : Nat) : Img R C (flipN f a b c d) :=
  ⟨h.r1, h.r2, h.c1, h.c2, fun y x hy hx => by unfold flipN; split <;> rcases h.cell y x hy hx with e | e <;> simp [e]⟩
theorem flipF_img {R C : Nat} {f : Nat → Nat → Int} (h : Img R C f) (s : Sw) : Img R C (flipF f s) := flipN_img h _ _ _ _
theorem flipN_flip (f : Nat → Nat → Int) (a b c d : Nat) : flipN (flipN f a b c d) a b c d = f := by
  funext y x
  unfold flipN
  by_cases h : (y = a ∨ y = b) ∧ (x = c ∨ x = d)
  · rw [if_pos h, if_pos h]; omega
  · rw [if_neg h, if_neg h]
theorem flipF_flip (f : Nat → Nat → Int) (s : Sw) : flipF (flipF f s) s = f := flipN_flip f _ _ _ _
theorem flipN_congr {R C : Nat} {f g : Nat → Nat → Int} (h : ∀ y x, y < R → x < C → f y x = g y x) (a b c d : Nat) : ∀ y x, y < R → x < C → flipN f a b c d y x = flipN g a b c d y x := by
  intro y x hy hx; unfold flipN; rw [h y x hy hx]
theorem four_flip {R C : Nat} {f : Nat → Nat → Int} {a b c d : Nat} (h : four R C f a b c d = true) : four R C (flipN f a b c d) a b c d = true := by
  have := four_iff.1 h
  refine four_iff.2 ⟨this.1, this.2.1, this.2.2.1, this.2.2.2.1, ?_⟩
  unfold flipN
  simp
  omega
theorem swF_flip {R C : Nat} {f : Nat → Nat → Int} {s : Sw} (h : swF R C f s = true) : swF R C (flipF f s) s = true := by
  obtain ⟨a, b, c, d, rfl, h'⟩ := swF_iff.1 h
  exact swF_iff.2 ⟨a, b, c, d, rfl, by simpa [flipF] using four_flip h'⟩

/-- The same of lists. -/
def swB (m : List (List Int)) (s : Sw) : Bool := swF m.length (widthM m) (cellM m) s
def flipM (m : List (List Int)) (s : Sw) : List (List Int) := mkM m.length (widthM m) (flipF (cellM m) s)
theorem swB_mk {R C : Nat} {f : Nat → Nat → Int} (h : Img R C f) (s : Sw) : swB (mkM R C f) s = swF R C f s := by
  have := h.r1
  unfold swB
  rw [mkM_len, width_mkM (by omega)]
  exact swF_congr (fun y x hy hx => cell_mk R C f hy hx) s
theorem flipM_mk {R C : Nat} {f : Nat → Nat → Int} (h : Img R C f) (s : Sw) : flipM (mkM R C f) s = mkM R C (flipF f s) := by
  have := h.r1
  unfold flipM
  rw [mkM_len, width_mkM (by omega)]
  exact mkM_congr (flipN_congr (fun y x hy hx => cell_mk R C f hy hx) _ _ _ _)

/-- A node: a list that is a valid image of this size. -/
def Node (R C : Nat) (m : List (List Int)) : Prop := ∃ f, m = mkM R C f ∧ Img R C f
theorem node_flip {R C : Nat} {m : List (List Int)} (h : Node R C m) (s : Sw) : Node R C (flipM m s) := by
  obtain ⟨f, rfl, h⟩ := h
  exact ⟨_, flipM_mk h s, flipF_img h s⟩
theorem flip_back {R C : Nat} {m : List (List Int)} (h : Node R C m) (s : Sw) : flipM (flipM m s) s = m := by
  obtain ⟨f, rfl, h⟩ := h
  rw [flipM_mk h, flipM_mk (flipF_img h s), flipF_flip]
theorem swB_back {R C : Nat} {m : List (List Int)} (h : Node R C m) {s : Sw} (hs : swB m s = true) : swB (flipM m s) s = true := by
  obtain ⟨f, rfl, h⟩ := h
  rw [swB_mk h] at hs
  rw [flipM_mk h, swB_mk (flipF_img h s)]
  exact swF_flip hs

/-- Switches one after the other. -/
def goM : List (List Int) → List Sw → Option (List (List Int))
  | m, [] => some m
  | m, s :: p => if swB m s then goM (flipM m s) p else none
theorem goM_append (m : List (List Int)) (p q : List Sw) : goM m (p ++ q) = (goM m p).bind fun t => goM t q := by
  induction p generalizing m with
  | nil => rfl
  | cons s p ih =>
    simp only [List.cons_append, goM]
    split
    · exact ih _
    · rfl
theorem goM_snoc {m t : List (List Int)} {p : List Sw} {s : Sw} (h : goM m p = some t) (hs : swB t s = true) : goM m (p ++ [s]) = some (flipM t s) := by
  rw [goM_append, h]
  simp [goM, hs]
theorem goM_unsnoc {m u : List (List Int)} {p : List Sw} {s : Sw} (h : goM m (p ++ [s]) = some u) : ∃ t, goM m p = some t ∧ swB t s = true ∧ u = flipM t s := by
  rw [goM_append] at h
  cases ht : goM m p with
  | none => rw [ht] at h; cases h
  | some t =>
    rw [ht] at h
    simp only [Option.bind_some, goM] at h
    split at h
    · rename_i hs; exact ⟨t, rfl, hs, (Option.some.inj h).symm⟩
    · cases h
theorem goM_node {R C : Nat} {m t : List (List Int)} {p : List Sw} (hm : Node R C m) (h : goM m p = some t) : Node R C t := by
  induction p generalizing m with
  | nil => cases h; exact hm
  | cons s p ih =>
    simp only [goM] at h
    split at h
    · exact ih (node_flip hm s) h
    · cases h
theorem goM_rev {R C : Nat} {m t : List (List Int)} {p : List Sw} (hm : Node R C m) (h : goM m p = some t) : goM t p.reverse = some m := by
  induction p generalizing m with
  | nil => cases h; rfl
  | cons s p ih =>
    simp only [goM] at h
    split at h
    · rename_i hs
      rw [List.reverse_cons]
      have := goM_snoc (ih (node_flip hm s) h) (swB_back hm hs)
      rw [flip_back hm s] at this
      exact this
    · cases h

/-- A switch by its number, and its number. -/
def decS (i : Nat) : Sw := ⟨((i / 125 : Nat) : Int), ((i / 25 % 5 : Nat) : Int), ((i / 5 % 5 : Nat) : Int), ((i % 5 : Nat) : Int)⟩
def codeS (s : Sw) : Int := ((s.y1 * 5 + s.y2) * 5 + s.x1) * 5 + s.x2
theorem code_dec (i : Nat) : codeS (decS i) = i := by unfold codeS decS; simp only; omega
/-- The switches up to a number, in order. -/
def upS (m : List (List Int)) (k : Nat) : List Sw := ((List.range k).filter fun i => swB m (decS i)).map decS
theorem upS_zero (m : List (List Int)) : upS m 0 = [] := rfl
theorem upS_yes {m : List (List Int)} {k : Nat} (h : swB m (decS k) = true) : upS m (k + 1) = upS m k ++ [decS k] := by
  unfold upS; rw [List.range_succ, List.filter_append, List.map_append]; simp [h]
theorem upS_no {m : List (List Int)} {k : Nat} (h : swB m (decS k) = false) : upS m (k + 1) = upS m k := by
  unfold upS; rw [List.range_succ, List.filter_append, List.map_append]; simp [h]
theorem upS_skip {m : List (List Int)} {k l : Nat} (hkl : k ≤ l) (h : ∀ i, k ≤ i → i < l → swB m (decS i) = false) : upS m l = upS m k := by
  induction l with
  | zero => obtain rfl : k = 0 := by omega
            rfl
  | succ l ih =>
    by_cases e : k = l + 1
    · rw [e]
    · rw [upS_no (h l (by omega) (by omega)), ih (by omega) fun i h1 h2 => h i h1 (by omega)]
def swsM (m : List (List Int)) : List Sw := upS m 625
theorem upS_len (m : List (List Int)) (k : Nat) : (upS m k).length ≤ k := by
  unfold upS; rw [List.length_map]
  exact Nat.le_trans (List.length_filter_le _ _) (by rw [List.length_range]; exact Nat.le_refl _)
theorem upS_mem {m : List (List Int)} {k : Nat} {s : Sw} (h : s ∈ upS m k) : swB m s = true ∧ ∃ i, i < k ∧ s = decS i := by
  unfold upS at h
  simp only [List.mem_map, List.mem_filter, List.mem_range] at h
  obtain ⟨i, ⟨h1, h2⟩, rfl⟩ := h
  exact ⟨h2, i, h1, rfl⟩
theorem sws_mem {R C : Nat} {m : List (List Int)} (hm : Node R C m) {s : Sw} : s ∈ swsM m ↔ swB m s = true := by
  refine ⟨fun h => (upS_mem h).1, fun h => ?_⟩
  obtain ⟨f, rfl, hI⟩ := hm
  have h0 := h
  rw [swB_mk hI] at h
  obtain ⟨a, b, c, d, rfl, hf⟩ := swF_iff.1 h
  have hf := four_iff.1 hf
  have := hI.r2; have := hI.c2
  unfold swsM upS
  simp only [List.mem_map, List.mem_filter, List.mem_range]
  have e : decS (((a * 5 + b) * 5 + c) * 5 + d) = ⟨a, b, c, d⟩ := by
    unfold decS
    rw [show (((a * 5 + b) * 5 + c) * 5 + d) / 125 = a by omega, show (((a * 5 + b) * 5 + c) * 5 + d) / 25 % 5 = b by omega, show (((a * 5 + b) * 5 + c) * 5 + d) / 5 % 5 = c by omega, show (((a * 5 + b) * 5 + c) * 5 + d) % 5 = d by omega]
  exact ⟨((a * 5 + b) * 5 + c) * 5 + d, ⟨by omega, by rw [e]; exact h0⟩, e⟩
/-- One switch comes before another. -/
def swlt (a b : Sw) : Prop := codeS a < codeS b
theorem upS_sorted (m : List (List Int)) (k : Nat) : (upS m k).Pairwise swlt := by
  unfold upS
  rw [List.pairwise_map]
  refine List.Pairwise.imp ?_ (List.Pairwise.filter _ (List.pairwise_lt_range (n := k)))
  intro a b h
  unfold swlt; rw [code_dec, code_dec]; omega
end Go.Proofs.YtcliiefedmiokaaGreat
/-
  Lists of switches by a number: the shorter ones first, equally long ones in order.
-/
namespace Go.Proofs.YtcliiefedmiokaaGreat

/-- The number of a switch, from 1 up to 625. -/
def numS (s : Sw) : Nat := (codeS s).toNat + 1
theorem num_dec (i : Nat) : numS (decS i) = i + 1 := by unfold numS; rw [code_dec]; rfl
def val (p : List Sw) : Nat := p.foldl (fun v s => v * 626 + numS s) 0
theorem val_nil : val [] = 0 := rfl
theorem val_snoc (p : List Sw) (s : Sw) : val (p ++ [s]) = val p * 626 + numS s := by simp [val, List.foldl_append]
theorem foldl_val (p : List Sw) : ∀ v, p.foldl (fun v s => v * 626 + numS s) v = v * 626 ^ p.length + val p := by
  induction p with
  | nil => intro v; simp [val]
  | cons s p ih =>
    intro v
    have h0 := ih (v * 626 + numS s)
    have h1 := ih (0 * 626 + numS s)
    unfold val
    simp only [List.foldl_cons, List.length_cons] at h0 h1 ⊢
    rw [h0, h1, Nat.pow_succ, Nat.add_mul, Nat.mul_assoc, Nat.mul_comm 626, Nat.zero_mul, Nat.zero_add, Nat.add_assoc]
theorem val_append (p q : List Sw) : val (p ++ q) = val p * 626 ^ q.length + val q := by
  have := foldl_val q (val p)
  unfold val at this ⊢
  rw [List.foldl_append, this]
theorem val_cons (s : Sw) (p : List Sw) : val (s :: p) = numS s * 626 ^ p.length + val p := by
  have := val_append [s] p
  simpa [val] using this
/-- Switches with numbers in their range. -/
def InR (p : List Sw) : Prop := ∀ s ∈ p, 1 ≤ numS s ∧ numS s ≤ 625
theorem inR_snoc {p : List Sw} {s : Sw} : InR (p ++ [s]) ↔ InR p ∧ (1 ≤ numS s ∧ numS s ≤ 625) := by
  unfold InR
  constructor
  · intro h; exact ⟨fun t ht => h t (by simp [ht]), h s (by simp)⟩
  · rintro ⟨h1, h2⟩ t ht
    rcases List.mem_append.1 ht with h | h
    · exact h1 t h
    · rw [List.mem_singleton] at h; subst h; exact h2
theorem inR_cons {p : List Sw} {s : Sw} : InR (s :: p) ↔ (1 ≤ numS s ∧ numS s ≤ 625) ∧ InR p := by
  unfold InR
  constructor
  · intro h; exact ⟨h s (by simp), fun t ht => h t (by simp [ht])⟩
  · rintro ⟨h1, h2⟩ t ht
    rcases List.mem_cons.1 ht with h | h
    · subst h; exact h1
    · exact h2 t h
theorem snoc_ind {α : Type} {C : List α → Prop} (h0 : C []) (h1 : ∀ p s, C p → C (p ++ [s])) : ∀ p, C p := by
  intro p
  have : ∀ n (p : List α), p.length = n → C p := by
    intro n
    induction n with
    | zero => intro p hp; rw [List.eq_nil_of_length_eq_zero hp]; exact h0
    | succ n ih =>
      intro p hp
      rcases List.eq_nil_or_concat p with rfl | ⟨q, b, rfl⟩
      · simp at hp
      · rw [List.concat_eq_append] at hp ⊢
        exact h1 q b (ih q (by simpa using hp))
  exact this _ p rfl
theorem val_lt {p : List Sw} (h : InR p) : val p + 1 ≤ 626 ^ p.length := by
  induction p using snoc_ind with
  | h0 => simp [val]
  | h1 p s ih =>
    obtain ⟨h1, h2⟩ := inR_snoc.1 h
    have := ih h1
    rw [val_snoc, List.length_append, List.length_singleton, Nat.pow_succ]
    omega
theorem val_ge {p : List Sw} (h : InR p) : 626 ^ p.length ≤ 626 * val p + 1 := by
  induction p using snoc_ind with
  | h0 => simp [val]
  | h1 p s ih =>
    obtain ⟨h1, h2⟩ := inR_snoc.1 h
    have := ih h1
    rw [val_snoc, List.length_append, List.length_singleton, Nat.pow_succ]
    omega
theorem val_short {p q : List Sw} (hp : InR p) (hq : InR q) (h : p.length < q.length) : val p < val q := by
  have h1 := val_lt hp
  have h2 := val_ge hq
  have h3 : 626 ^ (p.length + 1) ≤ 626 ^ q.length := Nat.pow_le_pow_right (by decide) h
  rw [Nat.pow_succ] at h3
  omega
theorem val_inj {p : List Sw} : ∀ {q : List Sw}, InR p → InR q → (∀ s ∈ p, ∃ i, i < 625 ∧ s = decS i) → (∀ s ∈ q, ∃ i, i < 625 ∧ s = decS i) → val p = val q → p = q := by
  induction p using snoc_ind with
  | h0 =>
    intro q _ hq _ _ h
    rcases List.eq_nil_or_concat q with rfl | ⟨q', b, rfl⟩
    · rfl
    · rw [List.concat_eq_append] at h hq
      have := (inR_snoc.1 hq).2
      rw [val_snoc, val_nil] at h
      omega
  | h1 p s ih =>
    intro q hp hq hp2 hq2 h
    obtain ⟨hp1, hs⟩ := inR_snoc.1 hp
    rcases List.eq_nil_or_concat q with rfl | ⟨q', b, rfl⟩
    · rw [val_snoc, val_nil] at h; omega
    · rw [List.concat_eq_append] at h hq hq2 ⊢
      obtain ⟨hq1, hb⟩ := inR_snoc.1 hq
      rw [val_snoc, val_snoc] at h
      have e1 : val p = val q' := by omega
      have e2 : numS s = numS b := by omega
      obtain ⟨i, hi, rfl⟩ := hp2 s (by simp)
      obtain ⟨j, hj, rfl⟩ := hq2 b (by simp)
      rw [num_dec, num_dec] at e2
      obtain rfl : i = j := by omega
      rw [ih hp1 hq1 (fun t ht => hp2 t (by simp [ht])) (fun t ht => hq2 t (by simp [ht])) e1]

/-- Each switch of an image has a number. -/
theorem swB_num {R C : Nat} {m : List (List Int)} (hm : Node R C m) {s : Sw} (h : swB m s = true) : ∃ i, i < 625 ∧ s = decS i := (upS_mem ((sws_mem hm).2 h)).2
theorem goM_inR {R C : Nat} : ∀ (p : List Sw) {m t : List (List Int)}, Node R C m → goM m p = some t → (∀ s ∈ p, ∃ i, i < 625 ∧ s = decS i)
  | [], _, _, _, _ => fun s hs => by simp at hs
  | s :: p, m, t, hm, h => by
    simp only [goM] at h
    split at h
    · rename_i hs
      intro u hu
      rcases List.mem_cons.1 hu with rfl | hu
      · exact swB_num hm hs
      · exact goM_inR p (node_flip hm s) h u hu
    · cases h
theorem inR_of {p : List Sw} (h : ∀ s ∈ p, ∃ i, i < 625 ∧ s = decS i) : InR p := fun s hs => by
  obtain ⟨i, hi, rfl⟩ := h s hs
  rw [num_dec]; omega
/-- A path that comes before all others. -/
def Best (m t : List (List Int)) (p : List Sw) : Prop := goM m p = some t ∧ ∀ q, goM m q = some t → val p ≤ val q
theorem best_one {R C : Nat} {m t : List (List Int)} {p q : List Sw} (hm : Node R C m) (h1 : Best m t p) (h2 : Best m t q) : p = q := by
  have a := goM_inR p hm h1.1; have b := goM_inR q hm h2.1
  exact val_inj (inR_of a) (inR_of b) a b (Nat.le_antisymm (h1.2 q h2.1) (h2.2 p h1.1))
theorem best_len {R C : Nat} {m t : List (List Int)} {p q : List Sw} (hm : Node R C m) (h : Best m t p) (hq : goM m q = some t) : p.length ≤ q.length := by
  refine Nat.le_of_not_lt fun hl => ?_
  have := val_short (inR_of (goM_inR q hm hq)) (inR_of (goM_inR p hm h.1)) hl
  have := h.2 q hq
  omega
/-- The rest of such a path is one too. -/
theorem best_tail {R C : Nat} {m t : List (List Int)} {s : Sw} {p : List Sw} (hm : Node R C m) (h : Best m t (s :: p)) : swB m s = true ∧ Best (flipM m s) t p := by
  obtain ⟨h1, h2⟩ := h
  simp only [goM] at h1
  split at h1
  · rename_i hs
    refine ⟨hs, h1, fun q hq => ?_⟩
    have hn := node_flip hm s
    have hg : goM m (s :: q) = some t := by simp only [goM, hs, if_true]; exact hq
    have h3 := h2 _ hg
    have ip := inR_of (goM_inR p hn h1); have iq := inR_of (goM_inR q hn hq)
    rcases Nat.lt_trichotomy p.length q.length with hl | hl | hl
    · exact Nat.le_of_lt (val_short ip iq hl)
    · rw [val_cons, val_cons, hl] at h3; omega
    · exfalso
      have i1 := inR_of (goM_inR (s :: q) hm hg)
      have i2 := inR_of (goM_inR (s :: p) hm (by simp only [goM, hs, if_true]; exact h1))
      have := val_short i1 i2 (by simp only [List.length_cons]; omega)
      omega
  · cases h1
theorem best_nil (m : List (List Int)) : Best m m [] := ⟨rfl, fun _ _ => Nat.zero_le _⟩
end Go.Proofs.YtcliiefedmiokaaGreat
