/-
  switched of the program: an image after one of its switches.
-/
import Derived.Test.YtnhijmhambggbaaHas
namespace Go.Proofs.Ytnhijmhambggbaa
open Go.RowKit

def pickN (a b i : Nat) : Nat := if i = 0 then a else b
def flipAt (F : Nat → Int) (p : Nat) : Nat → Int := fun j => if j = p then 1 - F p else F j
/-- The cells after the first n of the four. -/
def stepF (F : Nat → Int) (a b c d : Nat) : Nat → Nat → Int
  | 0 => F
  | n + 1 => flipAt (stepF F a b c d n) (5 * pickN a b (n / 2) + pickN c d (n % 2))
theorem stepF_small {F : Nat → Int} (h : ∀ i, F i = -1 ∨ F i = 0 ∨ F i = 1) (a b c d : Nat) : ∀ n i : Nat, -((n : Int) + 1) ≤ stepF F a b c d n i ∧ stepF F a b c d n i ≤ (n : Int) + 2
  | 0, i => by have := h i; unfold stepF; omega
  | n + 1, i => by
    have h1 := stepF_small h a b c d n i
    have h2 := stepF_small h a b c d n (5 * pickN a b (n / 2) + pickN c d (n % 2))
    unfold stepF flipAt
    split <;> omega
theorem stepF_all {F : Nat → Int} {a b c d : Nat} (hab : a ≠ b) (hcd : c ≠ d) (hc : c < 5) (hd : d < 5) : ∀ i, i < 25 → stepF F a b c d 4 i = if (i / 5 = a ∨ i / 5 = b) ∧ (i % 5 = c ∨ i % 5 = d) then 1 - F i else F i := by
  intro i hi
  have e : stepF F a b c d 4 = flipAt (flipAt (flipAt (flipAt F (5 * a + c)) (5 * a + d)) (5 * b + c)) (5 * b + d) := rfl
  rw [e]
  unfold flipAt
  by_cases h1 : i = 5 * a + c
  · subst h1
    rw [if_neg (by omega), if_neg (by omega), if_neg (by omega), if_pos rfl, if_pos (by omega)]
  · by_cases h2 : i = 5 * a + d
    · subst h2
      rw [if_neg (by omega), if_neg (by omega), if_pos rfl, if_neg (by omega), if_pos (by omega)]
    · by_cases h3 : i = 5 * b + c
      · subst h3
        rw [if_neg (by omega), if_pos rfl, if_neg (by omega), if_neg (by omega), if_pos (by omega)]
      · by_cases h4 : i = 5 * b + d
        · subst h4
          rw [if_pos rfl, if_neg (by omega), if_neg (by omega), if_neg (by omega), if_pos (by omega)]
        · rw [if_neg h4, if_neg h3, if_neg h2, if_neg h1, if_neg (by omega)]
theorem stepF_img {R C : Nat} {f : Nat → Nat → Int} {a b c d : Nat} (h : four R C f a b c d = true) (hC : C ≤ 5) : ∀ i, i < 25 → stepF (imgF R C f) a b c d 4 i = imgF R C (flipN f a b c d) i := by
  obtain ⟨h1, h2, h3, h4, -⟩ := four_iff.1 h
  intro i hi
  rw [stepF_all (by omega) (by omega) (by omega) (by omega) i hi]
  unfold imgF flipN
  by_cases hh : i / 5 < R ∧ i % 5 < C
  · rw [if_pos hh, if_pos hh]
  · rw [if_neg hh, if_neg hh, if_neg]
    omega
theorem vec_two (a b : Nat) : #[Value.int .i64 (a : Int), Value.int .i64 (b : Int)] = vec 2 fun i => ((pickN a b i : Nat) : Int) := rfl
theorem swAt_set {w : World} {g : Nat} {s : Sw} (h : SwAt w g s) (a : Addr) (v : Value) (hne : g ≠ a.block) : SwAt (w.setCell a v) g s := by
  unfold SwAt; rw [heap_setCell_other w a g v hne]; exact h
theorem exec_indexAt {P : Program} {ρ : Operand → Value} {o : Oper} {w : World} {x i : Operand} {T E : TypeId} {g b m s : Nat} (k q : Nat) (ho : o.op = .indexAddr T x i) (hx : ρ x = .pointer (some ⟨g, b, none⟩)) (hi : ρ i = .int .i64 k) (hu : P.underlying T = some (.array m E)) (hs : ∀ w, (sizeOf E).run P w = .ok s w) (hk : k < m) (hq : b + k * s = q) :
    (execOp ρ o).run P w = .ok (.value (.pointer (some ⟨g, q, none⟩))) w := by
  subst hq
  unfold execOp
  simp only [ho, hx, hi, Instr.indexAt, Instr.sureAddr, Sem.run_bind, asIntOf, Sem.run_pure, Result.andThen_ok, run_underlying hu]
  rw [if_pos ⟨by omega, by omega⟩]
  simp only [Sem.run_bind, hs, Result.andThen_ok, Int.toNat_natCast, addr_add]
  simp
theorem exec_storeInt {ρ : Operand → Value} {o : Oper} {w : World} {x y : Operand} {g k : Nat} {u v : Int} (ho : o.op = .store 3 x y) (hx : ρ x = .pointer (some ⟨g, k, none⟩)) (hy : ρ y = .int .i64 v) (h1 : w.cell? ⟨g, k, none⟩ = some (.int .i64 u)) (f1 : w.frozen? ⟨g, k, none⟩ = false) :
    (execOp ρ o).run Try.prog w = .ok .skip (w.setCell ⟨g, k, none⟩ (.int .i64 v)) := by
  unfold execOp
  simp only [ho, hx, hy]
  go_simp

set_option maxRecDepth 100000 in
set_option maxHeartbeats 4000000 in
theorem switched_any (F : Nat → Int) (a b c d : Nat) (w : World) (hF : ∀ i, F i = -1 ∨ F i = 0 ∨ F i = 1) (ha : a < 5) (hb : b < 5) (hc : c < 5) (hd : d < 5) :
    Calls Try.prog 82 #[.agg (vec 25 F), swV ⟨a, b, c, d⟩] w fun e w' => e = .returned (.agg (vec 25 (stepF F a b c d 4))) ∧ Below w.heap.size w w' := by
  have HSM := hide (stepF_small hF a b c d)
  have HSTEP : Hid (∀ n, stepF F a b c d (n + 1) = flipAt (stepF F a b c d n) (5 * pickN a b (n / 2) + pickN c d (n % 2))) := hide fun _ => rfl
  have HZERO : Hid (stepF F a b c d 0 = F) := hide rfl
  have HPA : Hid (∀ i, pickN a b i < 5) := hide fun i => by unfold pickN; split <;> omega
  have HPC : Hid (∀ i, pickN c d i < 5) := hide fun i => by unfold pickN; split <;> omega
  obtain ⟨G, hG⟩ : ∃ G, G = stepF F a b c d := ⟨_, rfl⟩
  rw [← hG] at HSM HSTEP HZERO ⊢
  clear hG hF
  obtain ⟨s, hs⟩ : ∃ s : Sw, s = ⟨a, b, c, d⟩ := ⟨_, rfl⟩
  have HSW := hide hs
  rw [← hs]
  clear hs
  go_enter Try.func82, Try.ntmps82
  go_wp2_with (first | (with_reducible refine wpList_boxVec 25 F 2 rfl rfl (.tmp 0) rfl rfl ?_; intro w1 h1 b1 s1) | (with_reducible refine wpList_boxSw s 3 rfl rfl (.tmp 1) rfl rfl ?_; intro w2 h2 b2 s2; have hb1 := blk_below h1 b2; have hbw := b1.trans (b2.mono b1.size); rw [s1] at h2 s2 ⊢; clear h1 b1 s1 b2) | (with_reducible refine wpList_allocVec 25 4 rfl rfl rfl Try.zeroImg ?_; intro w3 h3 b3 s3; have hb2 := blk_below hb1 b3; have hbw2 := hbw.trans (b3.mono hbw.size); have hs3 := swAt_below h2 b3; rw [s2] at h3 s3 ⊢; clear hb1 hbw h2 s2 b3; obtain ⟨c0, c1, c2, c3⟩ := swAt_cells hs3; rw [HSW.out] at c0 c1 c2 c3))
  rw [vec_two a b]
  have HP := hide hb2; have HR := hide h3; have HS := hide hs3; have HB := hide hbw2
  rw [← HZERO.out] at HP
  clear hb2 h3 hs3 hbw2 c0 c1 c2 c3 s3
  go_loopw [14] (fun u w' => ∃ i : Nat, i ≤ 2 ∧ u = .int .i64 i ∧ Blk w' w.heap.size 88 25 (G (2 * i)) ∧ Blk w' (w.heap.size + 1 + 1) 88 25 (fun _ => 0) ∧ SwAt w' (w.heap.size + 1) s ∧ Below w.heap.size w w') (fun u _ => 2 - (intOf u).toNat)
  case atStart => exact ⟨0, by omega, rfl, HP.out, HR.out, HS.out, HB.out⟩
  case round =>
    clear HP HR HS HB
    obtain ⟨i, hi, rfl, hp, hr, hsw, hbw⟩ := hrel
    have HP := hide hp; have HR := hide hr; have HS := hide hsw; have HB := hide hbw
    clear hp hr hsw hbw
    by_cases hlt : i < 2
    · have hiI : (i : Int) < 2 := by omega
      obtain ⟨c0, c1, c2, c3⟩ := swAt_cells HS.out
      rw [HSW.out] at c0 c1 c2 c3
      go_wp2_with (with_reducible refine wpList_indexVec i 16 rfl rfl _ _ rfl rfl rfl Try.underlying130 Try.isAgg3 Try.sizeOf3 hlt ?_)
      rw [vec_two c d]
      have hy5 := HPA.out i
      clear c0 c1 c2 c3
      go_loopw [22] (fun u w' => ∃ j : Nat, j ≤ 2 ∧ u = .int .i64 j ∧ Blk w' w.heap.size 88 25 (G (2 * i + j)) ∧ Blk w' (w.heap.size + 1 + 1) 88 25 (fun _ => 0) ∧ SwAt w' (w.heap.size + 1) s ∧ Below w.heap.size w w') (fun u _ => 2 - (intOf u).toNat)
      case atStart => exact ⟨0, by omega, rfl, HP.out, HR.out, HS.out, HB.out⟩
      case round =>
        clear HP HR HS HB
        obtain ⟨j, hj, rfl, hp, hr, hsw, hbw⟩ := hrel
        have HP := hide hp; have HR := hide hr; have HS := hide hsw; have HB := hide hbw
        clear hp hr hsw hbw
        by_cases hlj : j < 2
        · have hjI : (j : Int) < 2 := by omega
          have hx5 := HPC.out j
          obtain ⟨q, hq⟩ : ∃ q, q = 5 * pickN a b i + pickN c d j := ⟨_, rfl⟩
          obtain ⟨z, hz⟩ : ∃ z, z = G (2 * i + j) q := ⟨_, rfl⟩
          have hz4 : -5 ≤ z ∧ z ≤ 6 := by have := HSM.out (2 * i + j) q; omega
          obtain ⟨z1, hz1⟩ : ∃ z1, z1 = 1 - z := ⟨_, rfl⟩
          have HZ1 := hide hz1
          have hwr : IntKind.i64.wrap (1 - z) = 1 - z := IntWalk.i64_in _ (by omega)
          have HST : Hid ((fun t => if t = q then z1 else G (2 * i + j) t) = G (2 * i + (j + 1))) := hide (by
            have := HSTEP.out (2 * i + j)
            rw [show (2 * i + j) / 2 = i by omega, show (2 * i + j) % 2 = j by omega, ← hq] at this
            rw [← Nat.add_assoc, this, hz1, hz]; rfl)
          have hcl : wr.drew.cell? ⟨w.heap.size, q, none⟩ = some (.int .i64 z) := by rw [hz]; exact blk_cell (blk_draws HP.out 1) q (by omega)
          have hfr : wr.drew.frozen? ⟨w.heap.size, q, none⟩ = false := blk_frozen (blk_draws HP.out 1) q
          have HQ := hide hq
          clear hz hz1 hq
          go_wp2_with (with_reducible refine wpList_indexVec j 24 rfl rfl _ _ rfl rfl rfl Try.underlying130 Try.isAgg3 Try.sizeOf3 hlj ?_)
          obtain ⟨fs, hfs⟩ : ∃ fs : List FactP, fs = [isV (.int .i64 ((pickN a b i : Nat) : Int)), isV (.int .i64 ((pickN c d j : Nat) : Int)), isV (.int .i64 ((pickN a b i : Nat) : Int)), isV (.int .i64 ((pickN c d j : Nat) : Int)), isV (.pointer (some ⟨w.heap.size, pickN a b i * 5, none⟩)), isV (.pointer (some ⟨w.heap.size, q, none⟩)), isV (.int .i64 z), isV (.int .i64 z1), isV (.pointer (some ⟨w.heap.size, pickN a b i * 5, none⟩)), isV (.pointer (some ⟨w.heap.size, q, none⟩))] := ⟨_, rfl⟩
          have hst : ∀ f ∈ fs, StableP f := by
            rw [hfs]; intro f hf
            simp only [List.mem_cons, List.not_mem_nil, or_false] at hf
            rcases hf with rfl | rfl | rfl | rfl | rfl | rfl | rfl | rfl | rfl | rfl <;> exact stable_v _
          subst hfs
          refine wp_region_tail (S := fun w2 => w2 = wr.drew) [isV (.int .i64 ((pickN a b i : Nat) : Int)), isV (.int .i64 ((pickN c d j : Nat) : Int)), isV (.int .i64 ((pickN a b i : Nat) : Int)), isV (.int .i64 ((pickN c d j : Nat) : Int)), isV (.pointer (some ⟨w.heap.size, pickN a b i * 5, none⟩)), isV (.pointer (some ⟨w.heap.size, q, none⟩)), isV (.int .i64 z), isV (.int .i64 z1), isV (.pointer (some ⟨w.heap.size, pickN a b i * 5, none⟩)), isV (.pointer (some ⟨w.heap.size, q, none⟩))] [(2, .pointer (some ⟨w.heap.size, 0, none⟩)), (6, .int .i64 ((pickN a b i : Nat) : Int)), (8, .int .i64 ((pickN c d j : Nat) : Int))] _ _ 10 (by kernel_rfl) rfl rfl (by kernel_rfl) (by kernel_rfl) rfl (by kernel_rfl) ?base rfl ?ob rfl ?fin
          case base =>
            intro t v ht
            simp only [List.lookup_cons, List.lookup_nil] at ht
            repeat' split at ht
            all_goals first | (cases ht; done) | (obtain rfl := Option.some.inj ht; rename_i hh; obtain rfl := eq_of_beq hh; rfl)
          case ob =>
            exact ⟨obt_move (.int .i64 ((pickN a b i : Nat) : Int)) rfl rfl rfl (srt_b 6 rfl),
              obt_move (.int .i64 ((pickN c d j : Nat) : Int)) rfl rfl rfl (srt_b 8 rfl),
              obt_move (.int .i64 ((pickN a b i : Nat) : Int)) rfl rfl rfl (srt_b 6 rfl),
              obt_move (.int .i64 ((pickN c d j : Nat) : Int)) rfl rfl rfl (srt_b 8 rfl),
              obt_two (.pointer (some ⟨w.heap.size, pickN a b i * 5, none⟩)) rfl rfl (srt_b 2 rfl) (srt_j 2 rfl (by kernel_rfl) rfl) (fun ρ w2 hS hx hy => exec_indexAt (pickN a b i) (pickN a b i * 5) rfl hx hy Try.underlying88 Try.sizeOf86 (by omega) (by omega)),
              obt_two (.pointer (some ⟨w.heap.size, q, none⟩)) rfl rfl (srt_j 4 rfl (by kernel_rfl) rfl) (srt_j 3 rfl (by kernel_rfl) rfl) (fun ρ w2 hS hx hy => exec_indexAt (pickN c d j) q rfl hx hy Try.underlying86 Try.sizeOf3 (by omega) (by have := HQ.out; omega)),
              obt_one (.int .i64 z) rfl rfl (srt_j 5 rfl (by kernel_rfl) rfl) (fun ρ w2 hS hx => by subst hS; exact exec_loadInt rfl hx hcl),
              obt_two (.int .i64 z1) rfl rfl (srt_c (v := .int .i64 1)) (srt_j 6 rfl (by kernel_rfl) rfl) (fun ρ w2 hS hx hy => by rw [show z1 = 1 - z from HZ1.out]; go_simp),
              obt_two (.pointer (some ⟨w.heap.size, pickN a b i * 5, none⟩)) rfl rfl (srt_b 2 rfl) (srt_j 0 rfl (by kernel_rfl) rfl) (fun ρ w2 hS hx hy => exec_indexAt (pickN a b i) (pickN a b i * 5) rfl hx hy Try.underlying88 Try.sizeOf86 (by omega) (by omega)),
              obt_two (.pointer (some ⟨w.heap.size, q, none⟩)) rfl rfl (srt_j 8 rfl (by kernel_rfl) rfl) (srt_j 1 rfl (by kernel_rfl) rfl) (fun ρ w2 hS hx hy => exec_indexAt (pickN c d j) q rfl hx hy Try.underlying86 Try.sizeOf3 (by omega) (by have := HQ.out; omega)),
              trivial⟩
          case fin =>
            intro a' w' h1 h2 h3 hS h4 K hK
            have ha := frame_ov rfl h1 h2 h3 [(25, .int .i64 ((pickN a b i : Nat) : Int)), (26, .int .i64 ((pickN c d j : Nat) : Int)), (27, .int .i64 ((pickN a b i : Nat) : Int)), (28, .int .i64 ((pickN c d j : Nat) : Int)), (29, .pointer (some ⟨w.heap.size, pickN a b i * 5, none⟩)), (30, .pointer (some ⟨w.heap.size, q, none⟩)), (31, .int .i64 z), (32, .int .i64 z1), (33, .pointer (some ⟨w.heap.size, pickN a b i * 5, none⟩)), (34, .pointer (some ⟨w.heap.size, q, none⟩))] (by kernel_rfl) ⟨h4 0 25 rfl (by decide), h4 1 26 rfl (by decide), h4 2 27 rfl (by decide), h4 3 28 rfl (by decide), h4 4 29 rfl (by decide), h4 5 30 rfl (by decide), h4 6 31 rfl (by decide), h4 7 32 rfl (by decide), h4 8 33 rfl (by decide), h4 9 34 rfl (by decide), trivial⟩
            dsimp only [ov, List.lookup, Nat.reduceBEq, Nat.reduceAdd] at ha
            have v34 : a'.tmps.getD 34 undef = .pointer (some ⟨w.heap.size, q, none⟩) := h4 9 34 rfl (by decide)
            have v32 : a'.tmps.getD 32 undef = .int .i64 z1 := h4 7 32 rfl (by decide)
            subst hS
            refine run_skip (exec_storeInt (u := z) rfl v34 v32 hcl hfr) (hK undef _ ?_)
            show Exit.inBlock _ _ Exit.normal a' _
            have E1 : Hid (Blk (wr.drew.setCell ⟨w.heap.size, q, none⟩ (.int .i64 z1)) w.heap.size 88 25 (G (2 * i + (j + 1)))) := hide (by have := blk_set (blk_draws HP.out 1) q z1; rw [HST.out] at this; exact this)
            have E2 : Hid (Blk (wr.drew.setCell ⟨w.heap.size, q, none⟩ (.int .i64 z1)) (w.heap.size + 1 + 1) 88 25 (fun _ => 0)) := hide (blk_other (blk_draws HR.out 1) _ _ (by simp; omega))
            have E3 : Hid (SwAt (wr.drew.setCell ⟨w.heap.size, q, none⟩ (.int .i64 z1)) (w.heap.size + 1) s) := hide (swAt_set (swAt_below HS.out (below_drew (Below.refl _ _))) _ _ (by simp))
            have E4 : Hid (Below w.heap.size w (wr.drew.setCell ⟨w.heap.size, q, none⟩ (.int .i64 z1))) := hide ((below_drew HB.out).setCell (Nat.le_refl _) _)
            clear v34 v32
            generalize wr.drew.setCell ⟨w.heap.size, q, none⟩ (.int .i64 z1) = w9 at E1 E2 E3 E4 ⊢
            rw [ha]
            clear ha h1 h2 h3 h4 hst hK
            go_wp2
            go_roundw
            case rel => exact ⟨j + 1, by omega, by go_num, E1.out, E2.out, E3.out, E4.out⟩
            case measure => simp [intOf]; omega
        · obtain rfl : j = 2 := by omega
          go_wp2
          go_roundw
          case rel => exact ⟨i + 1, by omega, by go_num, HP.out, HR.out, HS.out, HB.out⟩
          case measure => simp [intOf]; omega
    · obtain rfl : i = 2 := by omega
      go_wp2_with (first | (with_reducible refine wpList_loadVec HP.out 37 rfl rfl _ rfl rfl Try.underlying88 Try.sizeImg ?_) | (with_reducible refine wpList_storeVec HR.out rfl (.tmp 4) (.tmp 37) rfl rfl rfl Try.sizeImg ?_; intro w4 h4 g4 s4))
      refine bodyPost_ret (results_vec rfl _ _ (w.heap.size + 1 + 1) 25 _ 88 _ _ rfl h4 Try.underlying88 Try.sizeImg) rfl ⟨rfl, ?_⟩
      exact HB.out.trans (grown_below g4 (fun k hk => by cases hk; omega) HB.out.size)
theorem switched_img (R C : Nat) (f : Nat → Nat → Int) (s : Sw) (w : World) (hI : Img R C f) (hs : swF R C f s = true) :
    Calls Try.prog 82 #[.agg (vec 25 (imgF R C f)), swV s] w fun e w' => e = .returned (.agg (vec 25 (imgF R C (flipF f s)))) ∧ Below w.heap.size w w' := by
  obtain ⟨a, b, c, d, rfl, h⟩ := swF_iff.1 hs
  have hR := hI.r2; have hC := hI.c2
  obtain ⟨h1, h2, h3, h4, -⟩ := four_iff.1 h
  refine (switched_any (imgF R C f) a b c d w (imgF_range hI) (by omega) (by omega) (by omega) (by omega)).mono ?_
  rintro e w' ⟨rfl, hb⟩
  refine ⟨?_, hb⟩
  rw [vec_congr (stepF_img h hC)]; rfl
end Go.Proofs.Ytnhijmhambggbaa
