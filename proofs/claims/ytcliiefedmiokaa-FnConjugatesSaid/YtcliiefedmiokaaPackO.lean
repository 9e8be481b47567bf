/-
  Texts of this claim, one behind the other: Swd, Sws, App, Cj.
-/
import Derived.Test.YtcliiefedmiokaaPackN
import Derived.Test.YtcliiefedmiokaaPackH
import Derived.Test.YtcliiefedmiokaaPackM
/-
  switched of the program: an image after one of its switches.
-/
namespace Go.Proofs.Ytcliiefedmiokaa
open Go.RowKit

def pickN (a b i : Nat) : Nat := if i = 0 then a else b
def flipAt (F : Nat → Int) (p : Nat) : Nat → Int := fun j => if j = p then 1 - F p else F j
/-- The cells after the first n of the four. -/
def stepF (F : Nat → Int) (a b c d : Nat) : Nat → Nat → Int
  | 0 => F
  | n + 1 => flipAt (stepF F a b c d n) (5 * pickN a b (n / 2) + pickN c d (n % 2))
theorem stepF_small {F : Nat → Int} (h : ∀ i, F i = -1 ∨ F i = 0 ∨ F i = 1) (a b c d : Nat) : ∀ n i : Nat, -((n : Int) + 1) ≤ stepF F a b c d n i ∧ stepF F a b c d n i ≤ (n : Int) + 2
  | 0, i => by have := h i; unfold stepF; omega
  | n + 1, i => by
    have h1 := stepF_small h a b c d n i
    have h2 := stepF_small h a b c d n (5 * pickN a b (n / 2) + pickN c d (n % 2))
    unfold stepF flipAt
    split <;> omega
theorem stepF_all {F : Nat → Int} {a b c d : Nat} (hab : a ≠ b) (hcd : c ≠ d) (hc : c < 5) (hd : d < 5) : ∀ i, i < 25 → stepF F a b c d 4 i = if (i / 5 = a ∨ i / 5 = b) ∧ (i % 5 = c ∨ i % 5 = d) then 1 - F i else F i := by
  intro i hi
  have e : stepF F a b c d 4 = flipAt (flipAt (flipAt (flipAt F (5 * a + c)) (5 * a + d)) (5 * b + c)) (5 * b + d) := rfl
  rw [e]
  unfold flipAt
  by_cases h1 : i = 5 * a + c
  · subst h1
    rw [if_neg (by omega), if_neg (by omega), if_neg (by omega), if_pos rfl, if_pos (by omega)]
  · by_cases h2 : i = 5 * a + d
    · subst h2
      rw [if_neg (by omega), if_neg (by omega), if_pos rfl, if_neg (by omega), if_pos (by omega)]
    · by_cases h3 : i = 5 * b + c
      · subst h3
        rw [if_neg (by omega), if_pos rfl, if_neg (by omega), if_neg (by omega), if_pos (by omega)]
      · by_cases h4 : i = 5 * b + d
        · subst h4
          rw [if_pos rfl, if_neg (by omega), if_neg (by omega), if_neg (by omega), if_pos (by omega)]
        · rw [if_neg h4, if_neg h3, if_neg h2, if_neg h1, if_neg (by omega)]
theorem stepF_img {R C : Nat} {f : Nat → Nat → Int} {a b c d : Nat} (h : four R C f a b c d = true) (hC : C ≤ 5) : ∀ i, i < 25 → stepF (imgF R C f) a b c d 4 i = imgF R C (flipN f a b c d) i := by
  obtain ⟨h1, h2, h3, h4, -⟩ := four_iff.1 h
  intro i hi
  rw [stepF_all (by omega) (by omega) (by omega) (by omega) i hi]
  unfold imgF flipN
  by_cases hh : i / 5 < R ∧ i % 5 < C
  · rw [if_pos hh, if_pos hh]
  · rw [if_neg hh, if_neg hh, if_neg]
    omega
theorem vec_two (a b : Nat) : #[Value.int .i64 (a : Int), Value.int .i64 (b : Int)] = vec 2 fun i => ((pickN a b i : Nat) : Int) := rfl
theorem swAt_set {w : World} {g : Nat} {s : Sw} (h : SwAt w g s) (a : Addr) (v : Value) (hne : g ≠ a.block) : SwAt (w.setCell a v) g s := by
  unfold SwAt; rw [heap_setCell_other w a g v hne]; exact h
theorem exec_indexAt {P : Program} {ρ : Operand → Value} {o : Oper} {w : World} {x i : Operand} {T E : TypeId} {g b m s : Nat} (k q : Nat) (ho : o.op = .indexAddr T x i) (hx : ρ x = .pointer (some ⟨g, b, none⟩)) (hi : ρ i = .int .i64 k) (hu : P.underlying T = some (.array m E)) (hs : ∀ w, (sizeOf E).run P w = .ok s w) (hk : k < m) (hq : b + k * s = q) :
    (execOp ρ o).run P w = .ok (.value (.pointer (some ⟨g, q, none⟩))) w := by
  subst hq
  unfold execOp
  simp only [ho, hx, hi, Instr.indexAt, Instr.sureAddr, Sem.run_bind, asIntOf, Sem.run_pure, Result.andThen_ok, run_underlying hu]
  rw [if_pos ⟨by omega, by omega⟩]
  simp only [Sem.run_bind, hs, Result.andThen_ok, Int.toNat_natCast, addr_add]
  simp
theorem exec_storeInt {ρ : Operand → Value} {o : Oper} {w : World} {x y : Operand} {g k : Nat} {u v : Int} (ho : o.op = .store 3 x y) (hx : ρ x = .pointer (some ⟨g, k, none⟩)) (hy : ρ y = .int .i64 v) (h1 : w.cell? ⟨g, k, none⟩ = some (.int .i64 u)) (f1 : w.frozen? ⟨g, k, none⟩ = false) :
    (execOp ρ o).run Try.prog w = .ok .skip (w.setCell ⟨g, k, none⟩ (.int .i64 v)) := by
  unfold execOp
  simp only [ho, hx, hy]
  go_simp

set_option maxRecDepth 100000 in
set_option maxHeartbeats 4000000 in
theorem switched_any (F : Nat → Int) (a b c d : Nat) (w : World) (hF : ∀ i, F i = -1 ∨ F i = 0 ∨ F i = 1) (ha : a < 5) (hb : b < 5) (hc : c < 5) (hd : d < 5) :
    Calls Try.prog 79 #[.agg (vec 25 F), swV ⟨a, b, c, d⟩] w fun e w' => e = .returned (.agg (vec 25 (stepF F a b c d 4))) ∧ Below w.heap.size w w' := by
  have HSM := hide (stepF_small hF a b c d)
  have HSTEP : Hid (∀ n, stepF F a b c d (n + 1) = flipAt (stepF F a b c d n) (5 * pickN a b (n / 2) + pickN c d (n % 2))) := hide fun _ => rfl
  have HZERO : Hid (stepF F a b c d 0 = F) := hide rfl
  have HPA : Hid (∀ i, pickN a b i < 5) := hide fun i => by unfold pickN; split <;> omega
  have HPC : Hid (∀ i, pickN c d i < 5) := hide fun i => by unfold pickN; split <;> omega
  obtain ⟨G, hG⟩ : ∃ G, G = stepF F a b c d := ⟨_, rfl⟩
  rw [← hG] at HSM HSTEP HZERO ⊢
  clear hG hF
  obtain ⟨s, hs⟩ : ∃ s : Sw, s = ⟨a, b, c, d⟩ := ⟨_, rfl⟩
  have HSW := hide hs
  rw [← hs]
  clear hs
  go_enter Try.func79, Try.ntmps79
  go_wp2_with (first | (with_reducible refine wpList_boxVec 25 F 2 rfl rfl (.tmp 0) rfl rfl ?_; intro w1 h1 b1 s1) | (with_reducible refine wpList_boxSw s 3 rfl rfl (.tmp 1) rfl rfl ?_; intro w2 h2 b2 s2; have hb1 := blk_below h1 b2; have hbw := b1.trans (b2.mono b1.size); rw [s1] at h2 s2 ⊢; clear h1 b1 s1 b2) | (with_reducible refine wpList_allocVec 25 4 rfl rfl rfl Try.zeroImg ?_; intro w3 h3 b3 s3; have hb2 := blk_below hb1 b3; have hbw2 := hbw.trans (b3.mono hbw.size); have hs3 := swAt_below h2 b3; rw [s2] at h3 s3 ⊢; clear hb1 hbw h2 s2 b3; obtain ⟨c0, c1, c2, c3⟩ := swAt_cells hs3; rw [HSW.out] at c0 c1 c2 c3))
  rw [vec_two a b]
  have HP := hide hb2; have HR := hide h3; have HS := hide hs3; have HB := hide hbw2
  rw [← HZERO.out] at HP
  clear hb2 h3 hs3 hbw2 c0 c1 c2 c3 s3
  go_loopw [14] (fun u w' => ∃ i : Nat, i ≤ 2 ∧ u = .int .i64 i ∧ Blk w' w.heap.size 78 25 (G (2 * i)) ∧ Blk w' (w.heap.size + 1 + 1) 78 25 (fun _ => 0) ∧ SwAt w' (w.heap.size + 1) s ∧ Below w.heap.size w w') (fun u _ => 2 - (intOf u).toNat)
  case atStart => exact ⟨0, by omega, rfl, HP.out, HR.out, HS.out, HB.out⟩
  case round =>
    clear HP HR HS HB
    obtain ⟨i, hi, rfl, hp, hr, hsw, hbw⟩ := hrel
    have HP := hide hp; have HR := hide hr; have HS := hide hsw; have HB := hide hbw
    clear hp hr hsw hbw
    by_cases hlt : i < 2
    · have hiI : (i : Int) < 2 := by omega
      obtain ⟨c0, c1, c2, c3⟩ := swAt_cells HS.out
      rw [HSW.out] at c0 c1 c2 c3
      go_wp2_with (with_reducible refine wpList_indexVec i 16 rfl rfl _ _ rfl rfl rfl Try.underlying130 Try.isAgg3 Try.sizeOf3 hlt ?_)
      rw [vec_two c d]
      have hy5 := HPA.out i
      clear c0 c1 c2 c3
      go_loopw [22] (fun u w' => ∃ j : Nat, j ≤ 2 ∧ u = .int .i64 j ∧ Blk w' w.heap.size 78 25 (G (2 * i + j)) ∧ Blk w' (w.heap.size + 1 + 1) 78 25 (fun _ => 0) ∧ SwAt w' (w.heap.size + 1) s ∧ Below w.heap.size w w') (fun u _ => 2 - (intOf u).toNat)
      case atStart => exact ⟨0, by omega, rfl, HP.out, HR.out, HS.out, HB.out⟩
      case round =>
        clear HP HR HS HB
        obtain ⟨j, hj, rfl, hp, hr, hsw, hbw⟩ := hrel
        have HP := hide hp; have HR := hide hr; have HS := hide hsw; have HB := hide hbw
        clear hp hr hsw hbw
        by_cases hlj : j < 2
        · have hjI : (j : Int) < 2 := by omega
          have hx5 := HPC.out j
          obtain ⟨q, hq⟩ : ∃ q, q = 5 * pickN a b i + pickN c d j := ⟨_, rfl⟩
          obtain ⟨z, hz⟩ : ∃ z, z = G (2 * i + j) q := ⟨_, rfl⟩
          have hz4 : -5 ≤ z ∧ z ≤ 6 := by have := HSM.out (2 * i + j) q; omega
          obtain ⟨z1, hz1⟩ : ∃ z1, z1 = 1 - z := ⟨_, rfl⟩
          have HZ1 := hide hz1
          have hwr : IntKind.i64.wrap (1 - z) = 1 - z := IntWalk.i64_in _ (by omega)
          have HST : Hid ((fun t => if t = q then z1 else G (2 * i + j) t) = G (2 * i + (j + 1))) := hide (by
            have := HSTEP.out (2 * i + j)
            rw [show (2 * i + j) / 2 = i by omega, show (2 * i + j) % 2 = j by omega, ← hq] at this
            rw [← Nat.add_assoc, this, hz1, hz]; rfl)
          have hcl : wr.drew.cell? ⟨w.heap.size, q, none⟩ = some (.int .i64 z) := by rw [hz]; exact blk_cell (blk_draws HP.out 1) q (by omega)
          have hfr : wr.drew.frozen? ⟨w.heap.size, q, none⟩ = false := blk_frozen (blk_draws HP.out 1) q
          have HQ := hide hq
          clear hz hz1 hq
          go_wp2_with (with_reducible refine wpList_indexVec j 24 rfl rfl _ _ rfl rfl rfl Try.underlying130 Try.isAgg3 Try.sizeOf3 hlj ?_)
          obtain ⟨fs, hfs⟩ : ∃ fs : List FactP, fs = [isV (.int .i64 ((pickN a b i : Nat) : Int)), isV (.int .i64 ((pickN c d j : Nat) : Int)), isV (.int .i64 ((pickN a b i : Nat) : Int)), isV (.int .i64 ((pickN c d j : Nat) : Int)), isV (.pointer (some ⟨w.heap.size, pickN a b i * 5, none⟩)), isV (.pointer (some ⟨w.heap.size, q, none⟩)), isV (.int .i64 z), isV (.int .i64 z1), isV (.pointer (some ⟨w.heap.size, pickN a b i * 5, none⟩)), isV (.pointer (some ⟨w.heap.size, q, none⟩))] := ⟨_, rfl⟩
          have hst : ∀ f ∈ fs, StableP f := by
            rw [hfs]; intro f hf
            simp only [List.mem_cons, List.not_mem_nil, or_false] at hf
            rcases hf with rfl | rfl | rfl | rfl | rfl | rfl | rfl | rfl | rfl | rfl <;> exact stable_v _
          subst hfs
          refine wp_region_tail (S := fun w2 => w2 = wr.drew) [isV (.int .i64 ((pickN a b i : Nat) : Int)), isV (.int .i64 ((pickN c d j : Nat) : Int)), isV (.int .i64 ((pickN a b i : Nat) : Int)), isV (.int .i64 ((pickN c d j : Nat) : Int)), isV (.pointer (some ⟨w.heap.size, pickN a b i * 5, none⟩)), isV (.pointer (some ⟨w.heap.size, q, none⟩)), isV (.int .i64 z), isV (.int .i64 z1), isV (.pointer (some ⟨w.heap.size, pickN a b i * 5, none⟩)), isV (.pointer (some ⟨w.heap.size, q, none⟩))] [(2, .pointer (some ⟨w.heap.size, 0, none⟩)), (6, .int .i64 ((pickN a b i : Nat) : Int)), (8, .int .i64 ((pickN c d j : Nat) : Int))] _ _ 10 (by kernel_rfl) rfl rfl (by kernel_rfl) (by kernel_rfl) rfl (by kernel_rfl) ?base rfl ?ob rfl ?fin
          case base =>
            intro t v ht
            simp only [List.lookup_cons, List.lookup_nil] at ht
            repeat' split at ht
            all_goals first | (cases ht; done) | (obtain rfl := Option.some.inj ht; rename_i hh; obtain rfl := eq_of_beq hh; rfl)
          case ob =>
            exact ⟨obt_move (.int .i64 ((pickN a b i : Nat) : Int)) rfl rfl rfl (srt_b 6 rfl),
              obt_move (.int .i64 ((pickN c d j : Nat) : Int)) rfl rfl rfl (srt_b 8 rfl),
              obt_move (.int .i64 ((pickN a b i : Nat) : Int)) rfl rfl rfl (srt_b 6 rfl),
              obt_move (.int .i64 ((pickN c d j : Nat) : Int)) rfl rfl rfl (srt_b 8 rfl),
              obt_two (.pointer (some ⟨w.heap.size, pickN a b i * 5, none⟩)) rfl rfl (srt_b 2 rfl) (srt_j 2 rfl (by kernel_rfl) rfl) (fun ρ w2 hS hx hy => exec_indexAt (pickN a b i) (pickN a b i * 5) rfl hx hy Try.underlying78 Try.sizeOf76 (by omega) (by omega)),
              obt_two (.pointer (some ⟨w.heap.size, q, none⟩)) rfl rfl (srt_j 4 rfl (by kernel_rfl) rfl) (srt_j 3 rfl (by kernel_rfl) rfl) (fun ρ w2 hS hx hy => exec_indexAt (pickN c d j) q rfl hx hy Try.underlying76 Try.sizeOf3 (by omega) (by have := HQ.out; omega)),
              obt_one (.int .i64 z) rfl rfl (srt_j 5 rfl (by kernel_rfl) rfl) (fun ρ w2 hS hx => by subst hS; exact exec_loadInt rfl hx hcl),
              obt_two (.int .i64 z1) rfl rfl (srt_c (v := .int .i64 1)) (srt_j 6 rfl (by kernel_rfl) rfl) (fun ρ w2 hS hx hy => by rw [show z1 = 1 - z from HZ1.out]; go_simp),
              obt_two (.pointer (some ⟨w.heap.size, pickN a b i * 5, none⟩)) rfl rfl (srt_b 2 rfl) (srt_j 0 rfl (by kernel_rfl) rfl) (fun ρ w2 hS hx hy => exec_indexAt (pickN a b i) (pickN a b i * 5) rfl hx hy Try.underlying78 Try.sizeOf76 (by omega) (by omega)),
              obt_two (.pointer (some ⟨w.heap.size, q, none⟩)) rfl rfl (srt_j 8 rfl (by kernel_rfl) rfl) (srt_j 1 rfl (by kernel_rfl) rfl) (fun ρ w2 hS hx hy => exec_indexAt (pickN c d j) q rfl hx hy Try.underlying76 Try.sizeOf3 (by omega) (by have := HQ.out; omega)),
              trivial⟩
          case fin =>
            intro a' w' h1 h2 h3 hS h4 K hK
            have ha := frame_ov rfl h1 h2 h3 [(25, .int .i64 ((pickN a b i : Nat) : Int)), (26, .int .i64 ((pickN c d j : Nat) : Int)), (27, .int .i64 ((pickN a b i : Nat) : Int)), (28, .int .i64 ((pickN c d j : Nat) : Int)), (29, .pointer (some ⟨w.heap.size, pickN a b i * 5, none⟩)), (30, .pointer (some ⟨w.heap.size, q, none⟩)), (31, .int .i64 z), (32, .int .i64 z1), (33, .pointer (some ⟨w.heap.size, pickN a b i * 5, none⟩)), (34, .pointer (some ⟨w.heap.size, q, none⟩))] (by kernel_rfl) ⟨h4 0 25 rfl (by decide), h4 1 26 rfl (by decide), h4 2 27 rfl (by decide), h4 3 28 rfl (by decide), h4 4 29 rfl (by decide), h4 5 30 rfl (by decide), h4 6 31 rfl (by decide), h4 7 32 rfl (by decide), h4 8 33 rfl (by decide), h4 9 34 rfl (by decide), trivial⟩
            dsimp only [ov, List.lookup, Nat.reduceBEq, Nat.reduceAdd] at ha
            have v34 : a'.tmps.getD 34 undef = .pointer (some ⟨w.heap.size, q, none⟩) := h4 9 34 rfl (by decide)
            have v32 : a'.tmps.getD 32 undef = .int .i64 z1 := h4 7 32 rfl (by decide)
            subst hS
            refine run_skip (exec_storeInt (u := z) rfl v34 v32 hcl hfr) (hK undef _ ?_)
            show Exit.inBlock _ _ Exit.normal a' _
            have E1 : Hid (Blk (wr.drew.setCell ⟨w.heap.size, q, none⟩ (.int .i64 z1)) w.heap.size 78 25 (G (2 * i + (j + 1)))) := hide (by have := blk_set (blk_draws HP.out 1) q z1; rw [HST.out] at this; exact this)
            have E2 : Hid (Blk (wr.drew.setCell ⟨w.heap.size, q, none⟩ (.int .i64 z1)) (w.heap.size + 1 + 1) 78 25 (fun _ => 0)) := hide (blk_other (blk_draws HR.out 1) _ _ (by simp; omega))
            have E3 : Hid (SwAt (wr.drew.setCell ⟨w.heap.size, q, none⟩ (.int .i64 z1)) (w.heap.size + 1) s) := hide (swAt_set (swAt_below HS.out (below_drew (Below.refl _ _))) _ _ (by simp))
            have E4 : Hid (Below w.heap.size w (wr.drew.setCell ⟨w.heap.size, q, none⟩ (.int .i64 z1))) := hide ((below_drew HB.out).setCell (Nat.le_refl _) _)
            clear v34 v32
            generalize wr.drew.setCell ⟨w.heap.size, q, none⟩ (.int .i64 z1) = w9 at E1 E2 E3 E4 ⊢
            rw [ha]
            clear ha h1 h2 h3 h4 hst hK
            go_wp2
            go_roundw
            case rel => exact ⟨j + 1, by omega, by go_num, E1.out, E2.out, E3.out, E4.out⟩
            case measure => simp [intOf]; omega
        · obtain rfl : j = 2 := by omega
          go_wp2
          go_roundw
          case rel => exact ⟨i + 1, by omega, by go_num, HP.out, HR.out, HS.out, HB.out⟩
          case measure => simp [intOf]; omega
    · obtain rfl : i = 2 := by omega
      go_wp2_with (first | (with_reducible refine wpList_loadVec HP.out 37 rfl rfl _ rfl rfl Try.underlying78 Try.sizeImg ?_) | (with_reducible refine wpList_storeVec HR.out rfl (.tmp 4) (.tmp 37) rfl rfl rfl Try.sizeImg ?_; intro w4 h4 g4 s4))
      refine bodyPost_ret (results_vec rfl _ _ (w.heap.size + 1 + 1) 25 _ 78 _ _ rfl h4 Try.underlying78 Try.sizeImg) rfl ⟨rfl, ?_⟩
      exact HB.out.trans (grown_below g4 (fun k hk => by cases hk; omega) HB.out.size)
theorem switched_img (R C : Nat) (f : Nat → Nat → Int) (s : Sw) (w : World) (hI : Img R C f) (hs : swF R C f s = true) :
    Calls Try.prog 79 #[.agg (vec 25 (imgF R C f)), swV s] w fun e w' => e = .returned (.agg (vec 25 (imgF R C (flipF f s)))) ∧ Below w.heap.size w w' := by
  obtain ⟨a, b, c, d, rfl, h⟩ := swF_iff.1 hs
  have hR := hI.r2; have hC := hI.c2
  obtain ⟨h1, h2, h3, h4, -⟩ := four_iff.1 h
  refine (switched_any (imgF R C f) a b c d w (imgF_range hI) (by omega) (by omega) (by omega) (by omega)).mono ?_
  rintro e w' ⟨rfl, hb⟩
  refine ⟨?_, hb⟩
  rw [vec_congr (stepF_img h hC)]; rfl
end Go.Proofs.Ytcliiefedmiokaa
/-
  switches of the program: all switches of an image, in order.
-/
namespace Go.Proofs.Ytcliiefedmiokaa
open Go.RowKit

def kp (p : Nat) : Nat := [1, 2, 3, 4, 7, 8, 9, 13, 14, 19].getD p 25
theorem pairs_len : (upP 25).length = 10 := by decide +kernel
theorem pairs_at : ∀ p, p < 10 → (upP 25)[p]? = some (kp p / 5, kp p % 5) := by decide +kernel
theorem kp_in : ∀ p, p < 10 → kp p < 25 ∧ kp p / 5 < kp p % 5 := by decide +kernel
theorem kp_next : ∀ p, p < 10 → kp p < kp (p + 1) ∧ kp (p + 1) ≤ 25 ∧ ∀ c, c < 25 → kp p < c → c < kp (p + 1) → ¬ c / 5 < c % 5 := by decide +kernel
theorem kp_zero : kp 0 = 1 := rfl
theorem kp_ten : kp 10 = 25 := rfl
theorem cellsP_at : ∀ (l : List (Nat × Nat)) (i a b : Nat), l[i]? = some (a, b) → (cellsP l)[i * 2]? = some (.int .i64 (a : Int)) ∧ (cellsP l)[i * 2 + 1]? = some (.int .i64 (b : Int))
  | [], i, a, b, h => by simp at h
  | p :: l, 0, a, b, h => by
    simp only [List.getElem?_cons_zero, Option.some.injEq] at h
    subst h
    exact ⟨rfl, rfl⟩
  | p :: l, i + 1, a, b, h => by
    have := cellsP_at l i a b (by simpa using h)
    have e : cellsP (p :: l) = [.int .i64 (p.1 : Int), .int .i64 (p.2 : Int)] ++ cellsP l := by simp [cellsP]
    rw [e]
    refine ⟨?_, ?_⟩
    · rw [List.getElem?_append_right (by simp; omega)]
      simpa [show (i + 1) * 2 - 2 = i * 2 by omega] using this.1
    · rw [List.getElem?_append_right (by simp; omega)]
      simpa [show (i + 1) * 2 + 1 - 2 = i * 2 + 1 by omega] using this.2
theorem swB_order {m : List (List Int)} {i : Nat} (h : ¬ (i / 125 < i / 25 % 5 ∧ i / 5 % 5 < i % 5)) : swB m (decS i) = false := by
  rw [Bool.eq_false_iff]
  intro e
  obtain ⟨a, b, c, d, e1, h1⟩ := swF_iff.1 e
  obtain ⟨h2, h3, -⟩ := four_iff.1 h1
  unfold decS at e1
  simp only [Sw.mk.injEq] at e1
  omega
theorem dec_pair (p q : Nat) (hq : q < 25) : decS (25 * p + q) = ⟨((p / 5 : Nat) : Int), ((p % 5 : Nat) : Int), ((q / 5 : Nat) : Int), ((q % 5 : Nat) : Int)⟩ := by
  unfold decS
  rw [show (25 * p + q) / 125 = p / 5 by omega, show (25 * p + q) / 25 % 5 = p % 5 by omega, show (25 * p + q) / 5 % 5 = q / 5 by omega, show (25 * p + q) % 5 = q % 5 by omega]
theorem upS_in (m : List (List Int)) (p : Nat) : upS m (25 * p + kp 0) = upS m (25 * p) :=
  upS_skip (by omega) fun i h1 h2 => swB_order (by rw [kp_zero] at h2; omega)
theorem upS_q (m : List (List Int)) (p q : Nat) (hq : q < 10) : upS m (25 * p + kp (q + 1)) = upS m (25 * p + kp q + 1) := by
  obtain ⟨h1, h2, h3⟩ := kp_next q hq
  refine upS_skip (by omega) fun i g1 g2 => swB_order ?_
  have := h3 (i - 25 * p) (by omega) (by omega) (by omega)
  omega
theorem upS_p (m : List (List Int)) (p : Nat) (hp : p < 10) : upS m (25 * kp (p + 1)) = upS m (25 * kp p + kp 10) := by
  obtain ⟨h1, h2, h3⟩ := kp_next p hp
  rw [kp_ten]
  refine upS_skip (by omega) fun i g1 g2 => swB_order ?_
  have := h3 (i / 25) (by omega) (by omega) (by omega)
  omega
theorem upS_first (m : List (List Int)) : upS m (25 * kp 0) = [] := by
  rw [upS_skip (k := 0) (by omega) fun i _ h2 => swB_order (by rw [kp_zero] at h2; omega)]; rfl
theorem own_not_blk {w : World} {b1 e1 n1 z1 g n : Nat} {T : TypeId} {F : Nat → Int} {v1 : Value} {xs : List Value} (h1 : w.ownsRow b1 e1 z1 v1 n1 xs) (h2 : Blk w g T n F) (hne : e1 ≠ T) : v1.ownBlock ≠ some g := by
  rcases h1.2 with ⟨rfl, _⟩ | ⟨g1, c1, cur1, rfl, _, hg1, _⟩
  · simp [Value.ownBlock]
  · intro e
    simp only [Value.ownBlock, Option.some.injEq] at e
    subst e
    unfold Blk at h2
    rw [hg1] at h2
    simp only [Option.some.injEq, Obj.cells.injEq] at h2
    exact hne h2.2.1
/-- Two integers in a row, loaded as an array. -/
theorem wpList_loadPair {ops : Array Oper} {rest : List Oper} {o : Oper} {a : Act} {Q : Exit → Act → World → Prop} {W : World} {g k p q : Nat} (h0 : W.cell? ⟨g, k, none⟩ = some (.int .i64 (p : Int))) (h1 : W.cell? ⟨g, k + 1, none⟩ = some (.int .i64 (q : Int)))
    (d : Tmp) (_hd : o.dst = some d) (hgd : o.guard = none) (x : Operand) (ho : o.op = .load 130 x) (hx : a.eval x = .pointer (some ⟨g, k, none⟩))
    (h : wpList Try.prog ops Q rest (a.put o.dst (.agg (vec 2 fun i => ((pickN p q i : Nat) : Int)))) W) : wpList Try.prog ops Q (o :: rest) a W := by
  refine wpList_plain hgd fun K hK => ?_
  have : (execOp a.eval o).run Try.prog W = .ok (.value (.agg (vec 2 fun i => ((pickN p q i : Nat) : Int)))) W := by
    unfold execOp
    simp only [ho, hx]
    go_simp
    rfl
  unfold Oper.wp
  rw [this]
  exact hK _ _ h
theorem Try.sizePair : (Try.prog.info? 130).map (·.size) = some 2 := by kernel_rfl
theorem Try.zeroPair (w : World) : (zeroValue 130).run Try.prog w = .ok (.agg (vec 2 fun _ => 0)) w := Try.zeroValue130 w
set_option maxRecDepth 100000 in
set_option maxHeartbeats 4000000 in
theorem switches_any (R C : Nat) (f : Nat → Nat → Int) (w : World) (hI : Img R C f) : Calls Try.prog 116 #[.agg (vec 25 (imgF R C f))] w (SwsRes (swsM (mkM R C f)) w) := by
  have HHAS := hide fun s w => hasSwitch_any (imgF R C f) s w
  have HH : Hid (∀ s, hasF (imgF R C f) s = swB (mkM R C f) s) := hide fun s => by rw [hasF_img hI, swB_mk hI]
  obtain ⟨m, hm⟩ : ∃ m, m = mkM R C f := ⟨_, rfl⟩
  obtain ⟨F, hF⟩ : ∃ F, F = imgF R C f := ⟨_, rfl⟩
  rw [← hm, ← hF] at HH; rw [← hF] at HHAS; rw [← hm, ← hF]
  clear hm hF hI
  go_enter Try.func116, Try.ntmps116
  go_wp2_with (first | (with_reducible refine wpList_boxVec 25 F 1 rfl rfl (.tmp 0) rfl rfl ?_; intro w1 h1 b1 s1) | (refine (pairsBelow_any _).mono ?_; rintro e w2 ⟨pv, rfl, hp, hb2⟩; have HP0 := hide (ownA_base hp (show w.heap.size + 1 ≤ w1.heap.size by omega)); have HF0 := hide (blk_below h1 hb2); have HB0 := hide (b1.trans (hb2.mono b1.size)); have HZ := hide (show w.heap.size + 1 ≤ w2.heap.size by have := hb2.size; omega); rw [pairs_len] at HP0; obtain ⟨gp, cp, rfl, -⟩ := ownA_some HP0.out (by decide); clear hp hb2 h1 b1 s1))
  go_loopw [3, 13] (fun u t w' => ∃ (p : Nat) (v : Value), p ≤ 10 ∧ t = .int .i64 p ∧ v = u ∧ OwnSws w' (w.heap.size + 1) v (upS m (25 * kp p)) ∧ w'.ownsRow (w.heap.size + 1) 130 2 (.slice (some ⟨gp, 0, none⟩) 10 cp) 10 (cellsP (upP 25)) ∧ Blk w' w.heap.size 78 25 F ∧ w.heap.size + 1 ≤ w'.heap.size ∧ Below w.heap.size w w') (fun _ t _ => 10 - (intOf t).toNat)
  case atStart => exact ⟨0, _, by omega, rfl, rfl, by rw [upS_first]; exact ownSws_nil _ _, HP0.out, HF0.out, HZ.out, HB0.out⟩
  case round =>
    clear HP0 HF0 HB0 HZ
    obtain ⟨p, v, hp, rfl, rfl, ho, hpr, hf, hz, hb⟩ := hrel
    have HO := hide ho; have HP := hide hpr; have HF := hide hf; have HZ := hide hz; have HB := hide hb
    clear ho hpr hf hz hb
    by_cases hlt : p < 10
    · have hpI : (p : Int) < 10 := by omega
      have HKP := hide (kp_in p hlt)
      have HPT := hide (cellsP_at _ _ _ _ (pairs_at p hlt))
      have HUP := hide (upS_p m p hlt)
      obtain ⟨A, hA⟩ : ∃ A, A = kp p := ⟨_, rfl⟩
      have HA := hide hA
      rw [← hA] at HO HKP HPT HUP
      clear hA
      obtain ⟨y1, hy1⟩ : ∃ y, y = A / 5 := ⟨_, rfl⟩
      obtain ⟨y2, hy2⟩ : ∃ y, y = A % 5 := ⟨_, rfl⟩
      have HY1 := hide hy1; have HY2 := hide hy2
      rw [← hy1, ← hy2] at HPT
      have q0 := HP.out.cellAt (p * 2) (by omega)
      have q1 := HP.out.cellAt (p * 2 + 1) (by omega)
      rw [HPT.out.1] at q0; rw [HPT.out.2] at q1
      rw [← upS_in m A] at HO
      clear hy1 hy2
      go_wp2_with (first | (with_reducible refine wpList_loadPair q0 q1 16 rfl rfl _ rfl rfl ?_) | (with_reducible refine wpList_allocVec 2 6 rfl rfl rfl Try.zeroPair ?_; intro w3 h3 b3 s3) | (with_reducible refine wpList_storeVec h3 rfl (.tmp 6) (.tmp 16) rfl rfl rfl Try.sizePair ?_; intro w4 h4 g4 s4))
      have b4 := b3.trans (grown_below g4 (fun k hk => by cases hk; exact Nat.le_refl _) b3.size)
      have HO1 := hide (ownSws_below HO.out b4); have HP1 := hide (ownA_below HP.out b4); have HF1 := hide (blk_below HF.out b4); have HB1 := hide (HB.out.trans (b4.mono HB.out.size)); have HY := hide h4
      have HZ1 := hide (show w.heap.size + 1 ≤ w4.heap.size by have := HZ.out; omega)
      obtain ⟨gy, hgy⟩ : ∃ gy, gy = wr.heap.size := ⟨_, rfl⟩
      rw [← hgy] at HY ⊢
      clear q0 q1 h3 b3 s3 h4 g4 s4 b4 HO HP HF HB HZ hgy
      go_loopw [3, 19] (fun u t w' => ∃ (q : Nat) (v : Value), q ≤ 10 ∧ t = .int .i64 q ∧ v = u ∧ OwnSws w' (w.heap.size + 1) v (upS m (25 * A + kp q)) ∧ w'.ownsRow (w.heap.size + 1) 130 2 (.slice (some ⟨gp, 0, none⟩) 10 cp) 10 (cellsP (upP 25)) ∧ Blk w' w.heap.size 78 25 F ∧ Blk w' gy 130 2 (fun i => ((pickN y1 y2 i : Nat) : Int)) ∧ w.heap.size + 1 ≤ w'.heap.size ∧ Below w.heap.size w w') (fun _ t _ => 10 - (intOf t).toNat)
      case atStart => exact ⟨0, _, by omega, rfl, rfl, HO1.out, HP1.out, HF1.out, HY.out, HZ1.out, HB1.out⟩
      case round =>
        clear HO1 HP1 HF1 HY HZ1 HB1
        obtain ⟨q, v, hq, rfl, rfl, ho, hpr, hf, hy, hz, hb⟩ := hrel
        have HO := hide ho; have HP := hide hpr; have HF := hide hf; have HY := hide hy; have HZ := hide hz; have HB := hide hb
        clear ho hpr hf hy hz hb
        by_cases hlq : q < 10
        · have hqI : (q : Int) < 10 := by omega
          have HKQ := hide (kp_in q hlq)
          have HPT2 := hide (cellsP_at _ _ _ _ (pairs_at q hlq))
          have HUQ := hide (upS_q m A q hlq)
          have HLEN := hide (upS_len m (25 * A + kp q))
          have HDEC := hide (dec_pair A (kp q) HKQ.out.1)
          have HYES := hide (fun h => upS_yes (m := m) (k := 25 * A + kp q) h)
          have HNO := hide (fun h => upS_no (m := m) (k := 25 * A + kp q) h)
          obtain ⟨B, hB⟩ : ∃ B, B = kp q := ⟨_, rfl⟩
          rw [← hB] at HO HKQ HPT2 HUQ HLEN HDEC HYES HNO
          clear hB
          obtain ⟨x1, hx1⟩ : ∃ y, y = B / 5 := ⟨_, rfl⟩
          obtain ⟨x2, hx2⟩ : ∃ y, y = B % 5 := ⟨_, rfl⟩
          rw [← hx1, ← hx2] at HPT2 HDEC
          rw [← HY1.out, ← HY2.out] at HDEC
          rw [HDEC.out] at HYES HNO
          obtain ⟨s, hs⟩ : ∃ s : Sw, s = ⟨y1, y2, x1, x2⟩ := ⟨_, rfl⟩
          have HSV := hide (show Value.agg #[.int .i64 (y1 : Int), .int .i64 (y2 : Int), .int .i64 (x1 : Int), .int .i64 (x2 : Int)] = swV s by rw [hs]; rfl)
          rw [← hs] at HYES HNO
          have q0 := HP.out.cellAt (q * 2) (by omega)
          have q1 := HP.out.cellAt (q * 2 + 1) (by omega)
          rw [HPT2.out.1] at q0; rw [HPT2.out.2] at q1
          have HLN : Hid (25 * A + B < 1000) := hide (by have := HKP.out.1; have := HKQ.out.1; omega)
          clear hx1 hx2 hs
          cases hsb : swB m s with
          | false =>
            have HSB := hide hsb
            have HN := hide (HNO.out hsb)
            clear hsb
            go_wp2_with (first | (with_reducible refine wpList_loadPair q0 q1 22 rfl rfl _ rfl rfl ?_) | (with_reducible refine wpList_allocVec 2 8 rfl rfl rfl Try.zeroPair ?_; intro w5 h5 b5 s5) | ((with_reducible refine wpList_storeVec h5 rfl (.tmp 8) (.tmp 22) rfl rfl rfl Try.sizePair ?_); intro w6 h6 g6 s6; have b6 := b5.trans (grown_below g6 (fun k hk => by cases hk; exact Nat.le_refl _) b5.size); have HO1 := hide (ownSws_below HO.out b6); have HP1 := hide (ownA_below HP.out b6); have HF1 := hide (blk_below HF.out b6); have HB1 := hide (HB.out.trans (b6.mono HB.out.size)); have HYB := hide (blk_below HY.out b6); have hz6 : w.heap.size + 1 ≤ w6.heap.size := Nat.le_trans HZ.out b6.size; have HZ1 := hide hz6; have c0 : w6.cell? ⟨gy, 0, none⟩ = some (.int .i64 (y1 : Int)) := blk_cell HYB.out 0 (by decide); have c1 : w6.cell? ⟨gy, 1, none⟩ = some (.int .i64 (y2 : Int)) := blk_cell HYB.out 1 (by decide); have c2 : w6.cell? ⟨wr.heap.size, 0, none⟩ = some (.int .i64 (x1 : Int)) := blk_cell h6 0 (by decide); have c3 : w6.cell? ⟨wr.heap.size, 1, none⟩ = some (.int .i64 (x2 : Int)) := blk_cell h6 1 (by decide); clear h5 b5 s5 h6 g6 s6 b6 q0 q1 hz6) | ((with_reducible refine wpList_allocSw 9 rfl rfl rfl ?_); intro w7 h7 b7 s7) | ((refine wpList_storeSw h7 s rfl (.tmp 9) (.tmp 31) rfl rfl HSV.out ?_); intro w8 h8 g8 s8; have b8 := b7.trans (grown_below g8 (fun k hk => by cases hk; exact Nat.le_refl _) b7.size); replace HO1 := hide (ownSws_below HO1.out b8); replace HP1 := hide (ownA_below HP1.out b8); replace HF1 := hide (blk_below HF1.out b8); replace HB1 := hide (HB1.out.trans (b8.mono HB1.out.size)); replace HYB := hide (blk_below HYB.out b8); replace HZ1 := hide (Nat.le_trans HZ1.out b8.size); clear h7 b7 s7 g8 s8 b8 c0 c1 c2 c3) | (with_reducible refine wpList_loadVec HF1.out 32 rfl rfl _ rfl rfl Try.underlying78 Try.sizeImg ?_) | (with_reducible refine wpList_loadSwC (swC_at h8) 33 rfl rfl _ rfl rfl ?_) | ((with_reducible refine (HHAS.out s _).mono ?_); rw [HH.out, HSB.out]; rintro e w9 ⟨rfl, b9⟩; replace HO1 := hide (ownSws_below HO1.out b9); replace HP1 := hide (ownA_below HP1.out b9); replace HF1 := hide (blk_below HF1.out b9); replace HB1 := hide (HB1.out.trans (b9.mono HB1.out.size)); replace HYB := hide (blk_below HYB.out b9); have h9 := swAt_below h8 b9; replace HZ1 := hide (Nat.le_trans HZ1.out b9.size); clear h8 b9))
            go_roundw
            case rel => exact ⟨q + 1, _, by omega, by go_num, rfl, by rw [HUQ.out, HN.out]; exact HO1.out, HP1.out, HF1.out, HYB.out, HZ1.out, HB1.out⟩
            case measure => simp [intOf]; omega
          | true =>
            have HSB := hide hsb
            have HN := hide (HYES.out hsb)
            clear hsb
            go_wp2_with (first | (with_reducible refine wpList_loadPair q0 q1 22 rfl rfl _ rfl rfl ?_) | (with_reducible refine wpList_allocVec 2 8 rfl rfl rfl Try.zeroPair ?_; intro w5 h5 b5 s5) | ((with_reducible refine wpList_storeVec h5 rfl (.tmp 8) (.tmp 22) rfl rfl rfl Try.sizePair ?_); intro w6 h6 g6 s6; have b6 := b5.trans (grown_below g6 (fun k hk => by cases hk; exact Nat.le_refl _) b5.size); have HO1 := hide (ownSws_below HO.out b6); have HP1 := hide (ownA_below HP.out b6); have HF1 := hide (blk_below HF.out b6); have HB1 := hide (HB.out.trans (b6.mono HB.out.size)); have HYB := hide (blk_below HY.out b6); have hz6 : w.heap.size + 1 ≤ w6.heap.size := Nat.le_trans HZ.out b6.size; have HZ1 := hide hz6; have c0 : w6.cell? ⟨gy, 0, none⟩ = some (.int .i64 (y1 : Int)) := blk_cell HYB.out 0 (by decide); have c1 : w6.cell? ⟨gy, 1, none⟩ = some (.int .i64 (y2 : Int)) := blk_cell HYB.out 1 (by decide); have c2 : w6.cell? ⟨wr.heap.size, 0, none⟩ = some (.int .i64 (x1 : Int)) := blk_cell h6 0 (by decide); have c3 : w6.cell? ⟨wr.heap.size, 1, none⟩ = some (.int .i64 (x2 : Int)) := blk_cell h6 1 (by decide); clear h5 b5 s5 h6 g6 s6 b6 q0 q1 hz6) | ((with_reducible refine wpList_allocSw 9 rfl rfl rfl ?_); intro w7 h7 b7 s7) | ((refine wpList_storeSw h7 s rfl (.tmp 9) (.tmp 31) rfl rfl HSV.out ?_); intro w8 h8 g8 s8; have b8 := b7.trans (grown_below g8 (fun k hk => by cases hk; exact Nat.le_refl _) b7.size); replace HO1 := hide (ownSws_below HO1.out b8); replace HP1 := hide (ownA_below HP1.out b8); replace HF1 := hide (blk_below HF1.out b8); replace HB1 := hide (HB1.out.trans (b8.mono HB1.out.size)); replace HYB := hide (blk_below HYB.out b8); replace HZ1 := hide (Nat.le_trans HZ1.out b8.size); clear h7 b7 s7 g8 s8 b8 c0 c1 c2 c3) | (with_reducible refine wpList_loadVec HF1.out 32 rfl rfl _ rfl rfl Try.underlying78 Try.sizeImg ?_) | (with_reducible refine wpList_loadSwC (swC_at h8) 33 rfl rfl _ rfl rfl ?_) | ((with_reducible refine (HHAS.out s _).mono ?_); rw [HH.out, HSB.out]; rintro e w9 ⟨rfl, b9⟩; replace HO1 := hide (ownSws_below HO1.out b9); replace HP1 := hide (ownA_below HP1.out b9); replace HF1 := hide (blk_below HF1.out b9); replace HB1 := hide (HB1.out.trans (b9.mono HB1.out.size)); replace HYB := hide (blk_below HYB.out b9); have h9 := swAt_below h8 b9; replace HZ1 := hide (Nat.le_trans HZ1.out b9.size); clear h8 b9) | (with_reducible refine wpList_loadSwC (swC_at h9) 36 rfl rfl _ rfl rfl ?_) | (refine wpList_buildOneA (swA s) _ 37 rfl rfl (.tmp 36) rfl rfl Try.underlying40 Try.infoSw (by decide) (by decide) rfl ?_) | (at_builtin; refine wpList_pushA HO1.out (swA s) _ rfl _ _ rfl Try.underlying40 Try.infoSw rfl (by decide) (by decide) rfl rfl rfl (swA_one s) (by have := HLEN.out; have := HLN.out; omega) HZ1.out ?_; intro g cap wa hown ba ga ata lta))
            go_roundw
            case rel =>
              refine ⟨q + 1, _, by omega, by go_num, rfl, ?_, ?_, ?_, ?_, ?_, ?_⟩
              · rw [HUQ.out, HN.out]
                unfold OwnSws
                rw [cellsS_snoc, List.length_append]
                exact hown
              · exact HP1.out.kept ga (ownA_types HP1.out HO1.out (by decide))
              · exact blk_grown HF1.out ga (by intro e; have := HO1.out.lt _ e; omega)
              · exact blk_grown HYB.out ga (own_not_blk HO1.out HYB.out (by decide))
              · exact Nat.le_trans HZ1.out ba.size
              · exact HB1.out.trans (ba.mono (by omega))
            case measure => simp [intOf]; omega
        · obtain rfl : q = 10 := by omega
          go_wp2
          go_roundw
          case rel => exact ⟨p + 1, _, by omega, by go_num, rfl, by rw [HUP.out]; exact HO.out, HP.out, HF.out, HZ.out, HB.out⟩
          case measure => simp [intOf]; omega
    · obtain rfl : p = 10 := by omega
      go_wp2
      go_ret
      exact ⟨_, rfl, ownSws_base HO.out (Nat.le_succ _), HB.out⟩
end Go.Proofs.Ytcliiefedmiokaa
/-
  ApplyAll, ApplySwitch, SwitchOk, SwitchesOf, IsUnique of the program.
-/
namespace Go.Proofs.Ytcliiefedmiokaa
open Go.RowKit

theorem wpList_loadSwW {ops : Array Oper} {rest : List Oper} {o : Oper} {a : Act} {Q : Exit → Act → World → Prop} {W : World} {g k : Nat} {s : Sw} (hb : SwC W g k s)
    (d : Tmp) (_hd : o.dst = some d) (j : Nat) (want : Bool) (hg : o.guard = some (j, want)) (b : Bool) (hy : yielded ops a.tmps j = some b) (hw : b = want) (x : Operand) (ho : o.op = .load 45 x) (hx : a.eval x = .pointer (some ⟨g, k, none⟩))
    (h : wpList Try.prog ops Q rest (a.put o.dst (swV s)) W) : wpList Try.prog ops Q (o :: rest) a W := by
  obtain ⟨h0, h1, h2, h3⟩ := hb
  refine wpList_step fun K hK => ?_
  rw [if_pos (show Region.wanted o (yielded ops a.tmps) = true by unfold Region.wanted; rw [hg]; simp only [hy, hw, beq_self_eq_true])]
  have : (execOp a.eval o).run Try.prog W = .ok (.value (swV s)) W := by
    unfold execOp
    simp only [ho, hx]
    go_simp
    rfl
  unfold Oper.wp
  rw [this]
  exact hK _ _ h
theorem goM_stop {m t : List (List Int)} {l : List Sw} {k : Nat} (hk : k < l.length) (h : goM m (l.take k) = some t) (hs : swB t l[k] = false) : goM m l = none := by
  have e : l = l.take k ++ (l[k] :: l.drop (k + 1)) := by rw [List.getElem_cons_drop, List.take_append_drop]
  rw [e, goM_append, h]
  simp only [Option.bind_some, goM, hs]
  rfl
theorem goM_take {m t : List (List Int)} {l : List Sw} {k : Nat} (hk : k < l.length) (h : goM m (l.take k) = some t) (hs : swB t l[k] = true) : goM m (l.take (k + 1)) = some (flipM t l[k]) := by
  rw [List.take_succ_eq_append_getElem hk]
  exact goM_snoc h hs
theorem goM_full {m : List (List Int)} {l : List Sw} {r : Option (List (List Int))} (h : goM m (l.take l.length) = r) : goM m l = r := by rwa [List.take_length] at h
/-- What ApplyAll answers. -/
def appRows (m : List (List Int)) (l : List Sw) : List (List Int) := if l.length ≤ 60 then (goM m l).getD [] else []
def appOk (m : List (List Int)) (l : List Sw) : Bool := decide (l.length ≤ 60) && (goM m l).isSome
theorem app_long {m : List (List Int)} {l : List Sw} (h : 60 < l.length) : appRows m l = [] ∧ appOk m l = false := by
  unfold appRows appOk
  rw [if_neg (by omega), decide_eq_false (by omega)]
  exact ⟨rfl, rfl⟩
theorem app_some {m t : List (List Int)} {l : List Sw} (h : l.length ≤ 60) (hg : goM m l = some t) : appRows m l = t ∧ appOk m l = true := by
  unfold appRows appOk
  rw [if_pos h, decide_eq_true h, hg]
  exact ⟨rfl, rfl⟩
theorem app_none {m : List (List Int)} {l : List Sw} (h : l.length ≤ 60) (hg : goM m l = none) : appRows m l = [] ∧ appOk m l = false := by
  unfold appRows appOk
  rw [if_pos h, decide_eq_true h, hg]
  exact ⟨rfl, rfl⟩
set_option maxHeartbeats 1000000 in
theorem implApplyAll_no (v lv : Value) (m : List (List Int)) (l : List Sw) (w : World) (hin : InMat w v m) (hl : InSws w lv l) (h : okB m = false) :
    Calls Try.prog 33 #[v, lv] w (MatRes2 [] false w) := by
  have HI := hide hin; have H := hide h
  obtain ⟨la, lc, rfl, -⟩ := hl
  clear hin h
  go_enter Try.func33, Try.ntmps33
  go_wp2_with (first | ((with_reducible refine (imageOf_no v m _ HI.out H.out).mono ?_); rintro e w1 ⟨rfl, b1⟩) | ((with_reducible refine wpList_allocVec 25 6 rfl rfl rfl Try.zeroImg ?_); intro w2 h2 b2 s2; have hb := b1.trans (b2.mono b1.size)) | ((with_reducible refine wpList_storeVec h2 rfl (.tmp 6) (.tmp 13) rfl rfl rfl Try.sizeImg ?_); intro w3 h3 g3 s3; have hb3 := hb.trans (grown_below g3 (fun k hk => by cases hk; exact b1.size) hb.size)))
  go_ret2
  exact matRes2_nil hb3
set_option maxRecDepth 100000 in
set_option maxHeartbeats 4000000 in
theorem implApplyAll_long (v lv : Value) (R C : Nat) (f : Nat → Nat → Int) (l : List Sw) (w : World) (hin : InMat w v (mkM R C f)) (hI : Img R C f) (hl : InSws w lv l) (h60 : 60 < l.length) :
    Calls Try.prog 33 #[v, lv] w (MatRes2 [] false w) := by
  have HI := hide hin; have H := hide hI
  obtain ⟨la, lc, rfl, hm, -⟩ := hl
  unfold maxLen at hm
  have h60I : (60 : Int) < l.length := by omega
  clear hin hI
  go_enter Try.func33, Try.ntmps33
  go_wp2_with (first | ((with_reducible refine (imageOf_yes v R C f _ HI.out H.out).mono ?_); rintro e w1 ⟨rfl, b1⟩) | ((with_reducible refine wpList_allocVec 25 6 rfl rfl rfl Try.zeroImg ?_); intro w2 h2 b2 s2; have hb := b1.trans (b2.mono b1.size)) | ((with_reducible refine wpList_storeVec h2 rfl (.tmp 6) (.tmp 13) rfl rfl rfl Try.sizeImg ?_); intro w3 h3 g3 s3; have hb3 := hb.trans (grown_below g3 (fun k hk => by cases hk; exact b1.size) hb.size)))
  go_ret2
  exact matRes2_nil hb3
set_option maxRecDepth 100000 in
set_option maxHeartbeats 4000000 in
theorem implApplyAll_yes (v lv : Value) (R C : Nat) (f : Nat → Nat → Int) (l : List Sw) (w : World) (hin : InMat w v (mkM R C f)) (hI : Img R C f) (hl : InSws w lv l) (h60 : l.length ≤ 60) :
    Calls Try.prog 33 #[v, lv] w (MatRes2 (appRows (mkM R C f) l) (appOk (mkM R C f) l) w) := by
  have HI := hide hin; have H := hide hI
  obtain ⟨la, lc, rfl, hm, hp⟩ := hl
  have HP := hide hp
  unfold maxLen at hm
  obtain ⟨n, hn⟩ : ∃ n, n = l.length := ⟨_, rfl⟩
  have HN := hide hn
  rw [← hn] at hm h60 ⊢
  have h60I : (n : Int) ≤ 60 := by omega
  clear hin hI hp hn
  go_enter Try.func33, Try.ntmps33
  go_wp2_with (first | ((with_reducible refine (imageOf_yes v R C f _ HI.out H.out).mono ?_); rintro e w1 ⟨rfl, b1⟩) | ((with_reducible refine wpList_allocVec 25 6 rfl rfl rfl Try.zeroImg ?_); intro w2 h2 b2 s2; have hb := b1.trans (b2.mono b1.size)) | ((with_reducible refine wpList_storeVec h2 rfl (.tmp 6) (.tmp 13) rfl rfl rfl Try.sizeImg ?_); intro w3 h3 g3 s3; have HB := hide (hb.trans (grown_below g3 (fun k hk => by cases hk; exact b1.size) hb.size))))
  have HF := hide h3
  have hp0 := b1.size
  obtain ⟨p, hp⟩ : ∃ p, p = w1.heap.size := ⟨_, rfl⟩
  rw [← hp] at HF hp0 ⊢
  clear b1 h2 b2 s2 hb h3 g3 s3 hp
  go_loopw [24] (fun t w' => ∃ (k : Nat) (fk : Nat → Nat → Int), k ≤ n ∧ t = .int .i64 k ∧ Img R C fk ∧ goM (mkM R C f) (l.take k) = some (mkM R C fk) ∧ Blk w' p 78 25 (imgF R C fk) ∧ Below w.heap.size w w') (fun t _ => n - (intOf t).toNat)
  case atStart => exact ⟨0, f, by omega, rfl, H.out, by rw [List.take_zero]; rfl, HF.out, HB.out⟩
  case round =>
    clear HF HB
    obtain ⟨k, fk, hk, rfl, hik, hgo, hf, hb⟩ := hrel
    have HIK := hide hik; have HGO := hide hgo; have HF := hide hf; have HB := hide hb
    clear hik hgo hf hb
    by_cases hlt : k < n
    · have hltI : (k : Int) < n := by omega
      have hkl : k < l.length := by rw [← HN.out]; exact hlt
      obtain ⟨gl, ol, rfl, hgl, hcl⟩ := HP.out.resolve_left (by omega)
      have HC := hide (swC_below (hcl k hkl) HB.out hgl)
      have HT := hide fun h => goM_take hkl HGO.out h
      have HST := hide fun h => goM_stop hkl HGO.out h
      obtain ⟨s, hs⟩ : ∃ s, s = l[k] := ⟨_, rfl⟩
      rw [← hs] at HC HT HST
      clear hs hcl
      cases hsb : swF R C fk s with
      | false =>
        have HSB := hide (show hasF (imgF R C fk) s = false by rw [hasF_img HIK.out, hsb])
        have HNN := hide (app_none (by rw [← HN.out]; exact h60) (HST.out (by rw [swB_mk HIK.out, hsb])))
        clear hsb
        go_wp2_with (first | (with_reducible refine wpList_loadSwC HC.out 27 rfl rfl _ rfl rfl ?_) | ((with_reducible refine wpList_allocSw 9 rfl rfl rfl ?_); intro w7 h7 b7 s7) | ((refine wpList_storeSw h7 s rfl (.tmp 9) (.tmp 27) rfl rfl rfl ?_); intro w8 h8 g8 s8; have b8 := b7.trans (grown_below g8 (fun k hk => by cases hk; exact Nat.le_refl _) b7.size); have HF1 := hide (blk_below HF.out b8); have HB1 := hide (HB.out.trans (b8.mono HB.out.size)); clear h7 b7 s7 g8 s8 b8) | (with_reducible refine wpList_loadVec HF1.out 28 rfl rfl _ rfl rfl Try.underlying78 Try.sizeImg ?_) | (with_reducible refine wpList_loadSwC (swC_at h8) 29 rfl rfl _ rfl rfl ?_) | ((with_reducible refine (hasSwitch_any (imgF R C fk) s _).mono ?_); rw [HSB.out]; rintro e w9 ⟨rfl, b9⟩; replace HF1 := hide (blk_below HF1.out b9); have h9 := swAt_below h8 b9; replace HB1 := hide (HB1.out.trans (b9.mono HB1.out.size)); clear h8 b9) | (with_reducible refine wpList_loadVec HF1.out 32 rfl rfl _ rfl rfl Try.underlying78 Try.sizeImg ?_) | (with_reducible refine wpList_loadSwC (swC_at h9) 33 rfl rfl _ rfl rfl ?_) | ((with_reducible refine (switched_img R C fk s _ HIK.out HSF.out).mono ?_); rintro e wa ⟨rfl, b10⟩; replace HF1 := hide (blk_below HF1.out b10); replace HB1 := hide (HB1.out.trans (b10.mono HB1.out.size)); clear b10) | ((with_reducible refine wpList_storeVec HF1.out rfl (.tmp 6) (.tmp 34) rfl rfl rfl Try.sizeImg ?_); intro wb ha gb sb; have HB2 := hide (HB1.out.trans (grown_below gb (fun k hk => by cases hk; exact hp0) HB1.out.size))))
        go_ret2
        rw [HNN.out.1, HNN.out.2]
        exact matRes2_nil HB1.out
      | true =>
        have HSB := hide (show hasF (imgF R C fk) s = true by rw [hasF_img HIK.out, hsb])
        have HSF := hide hsb
        have HTT := hide (HT.out (by rw [swB_mk HIK.out, hsb]))
        rw [flipM_mk HIK.out] at HTT
        clear hsb
        go_wp2_with (first | (with_reducible refine wpList_loadSwC HC.out 27 rfl rfl _ rfl rfl ?_) | ((with_reducible refine wpList_allocSw 9 rfl rfl rfl ?_); intro w7 h7 b7 s7) | ((refine wpList_storeSw h7 s rfl (.tmp 9) (.tmp 27) rfl rfl rfl ?_); intro w8 h8 g8 s8; have b8 := b7.trans (grown_below g8 (fun k hk => by cases hk; exact Nat.le_refl _) b7.size); have HF1 := hide (blk_below HF.out b8); have HB1 := hide (HB.out.trans (b8.mono HB.out.size)); clear h7 b7 s7 g8 s8 b8) | (with_reducible refine wpList_loadVec HF1.out 28 rfl rfl _ rfl rfl Try.underlying78 Try.sizeImg ?_) | (with_reducible refine wpList_loadSwC (swC_at h8) 29 rfl rfl _ rfl rfl ?_) | ((with_reducible refine (hasSwitch_any (imgF R C fk) s _).mono ?_); rw [HSB.out]; rintro e w9 ⟨rfl, b9⟩; replace HF1 := hide (blk_below HF1.out b9); have h9 := swAt_below h8 b9; replace HB1 := hide (HB1.out.trans (b9.mono HB1.out.size)); clear h8 b9) | (with_reducible refine wpList_loadVec HF1.out 32 rfl rfl _ rfl rfl Try.underlying78 Try.sizeImg ?_) | (with_reducible refine wpList_loadSwC (swC_at h9) 33 rfl rfl _ rfl rfl ?_) | ((with_reducible refine (switched_img R C fk s _ HIK.out HSF.out).mono ?_); rintro e wa ⟨rfl, b10⟩; replace HF1 := hide (blk_below HF1.out b10); replace HB1 := hide (HB1.out.trans (b10.mono HB1.out.size)); clear b10) | ((with_reducible refine wpList_storeVec HF1.out rfl (.tmp 6) (.tmp 34) rfl rfl rfl Try.sizeImg ?_); intro wb ha gb sb; have HB2 := hide (HB1.out.trans (grown_below gb (fun k hk => by cases hk; exact hp0) HB1.out.size))))
        go_roundw
        case rel => exact ⟨k + 1, flipF fk s, by omega, by go_num, flipF_img HIK.out s, HTT.out, ha, HB2.out⟩
        case measure => simp [intOf]; omega
    · obtain rfl : k = n := by omega
      have HSO := hide (app_some (by rw [← HN.out]; exact h60) (goM_full (by rw [← HN.out]; exact HGO.out)))
      go_wp2_with (first | (with_reducible refine wpList_loadVec HF.out 36 rfl rfl _ rfl rfl Try.underlying78 Try.sizeImg ?_) | ((with_reducible refine (lists_any R C fk _ HIK.out).mono ?_); rintro e w5 ⟨u, rfl, hu, b5⟩))
      go_ret2
      rw [HSO.out.1, HSO.out.2]
      exact ⟨_, rfl, ownMat_mono hu HB.out.size (Nat.le_refl _), HB.out.trans (b5.mono HB.out.size)⟩
def appRowsB (m : List (List Int)) (l : List Sw) : List (List Int) := if okB m then appRows m l else []
def appOkB (m : List (List Int)) (l : List Sw) : Bool := okB m && appOk m l
theorem implApplyAll_any (v lv : Value) (m : List (List Int)) (l : List Sw) (w : World) (hin : InMat w v m) (hl : InSws w lv l) :
    Calls Try.prog 33 #[v, lv] w (MatRes2 (appRowsB m l) (appOkB m l) w) := by
  unfold appRowsB appOkB
  cases h : okB m with
  | false => exact implApplyAll_no v lv m l w hin hl h
  | true =>
    obtain ⟨R, C, f, rfl, hI⟩ := ok_img h
    rw [Bool.true_and, if_pos rfl]
    by_cases h60 : l.length ≤ 60
    · exact implApplyAll_yes v lv R C f l w hin hI hl h60
    · have := app_long (m := mkM R C f) (l := l) (by omega)
      rw [this.1, this.2]
      exact implApplyAll_long v lv R C f l w hin hI hl (by omega)
theorem inSws_one {w : World} {g : Nat} {s : Sw} (h : SwAt w g s) : InSws w (.slice (some ⟨g, 0, none⟩) 1 1) [s] :=
  ⟨_, 1, rfl, by simp [maxLen], .inr ⟨g, 0, rfl, swAt_lt h, fun i hi => by
    obtain rfl : i = 0 := by simp at hi; omega
    exact swC_at h⟩⟩
set_option maxHeartbeats 1000000 in
theorem implApplySwitch_any (v : Value) (m : List (List Int)) (s : Sw) (w : World) (hin : InMat w v m) :
    Calls Try.prog 32 #[v, swV s] w (MatRes2 (appRowsB m [s]) (appOkB m [s]) w) := by
  have HI := hide hin
  clear hin
  go_enter Try.func32, Try.ntmps32
  go_wp2_with (first | ((with_reducible refine wpList_boxSw s 3 rfl rfl (.tmp 1) rfl rfl ?_); intro w2 h2 b2 s2; clear s2) | (with_reducible refine wpList_loadSwC (swC_at h2) 7 rfl rfl _ rfl rfl ?_) | (refine wpList_buildOneA (swA s) _ 8 rfl rfl (.tmp 7) rfl rfl Try.underlying40 Try.infoSw (by decide) (by decide) rfl ?_; have hal := (Below.refl w2.heap.size w2).alloc (Nat.le_refl _) (.cells (swA s) 45); have HL := hide (inSws_one (swAt_new w2 s)); have HB := hide (b2.trans (hal.mono b2.size)); have HI2 := hide (inMat_below HI.out HB.out); clear hal h2) | ((with_reducible refine (implApplyAll_any v _ m [s] _ HI2.out HL.out).mono ?_); rintro e w4 ⟨u, rfl, hu, b4⟩))
  go_ret2
  exact ⟨_, rfl, ownMat_mono hu HB.out.size (Nat.le_refl _), HB.out.trans (b4.mono HB.out.size)⟩
def swsOf (m : List (List Int)) : List Sw := if okB m then swsM m else []
set_option maxHeartbeats 1000000 in
theorem implSwitchesOf_any (v : Value) (m : List (List Int)) (w : World) (hin : InMat w v m) : Calls Try.prog 102 #[v] w (SwsRes (swsOf m) w) := by
  have HI := hide hin
  unfold swsOf
  cases h : okB m with
  | false =>
    have H := hide h
    clear hin h
    go_enter Try.func102, Try.ntmps102
    go_wp2_with (first | ((with_reducible refine (imageOf_no v m _ HI.out H.out).mono ?_); rintro e w3 ⟨rfl, b3⟩) | ((with_reducible refine wpList_allocVec 25 3 rfl rfl rfl Try.zeroImg ?_); intro w4 h4 b4 s4; have hb := b3.trans (b4.mono b3.size)) | ((with_reducible refine wpList_storeVec h4 rfl (.tmp 3) (.tmp 8) rfl rfl rfl Try.sizeImg ?_); intro w5 h5 g5 s5; have hb5 := hb.trans (grown_below g5 (fun k hk => by cases hk; exact b3.size) hb.size)))
    go_ret
    exact ⟨_, rfl, ownSws_nil _ _, hb5⟩
  | true =>
    obtain ⟨R, C, f, rfl, hI⟩ := ok_img h
    have HII := hide hI
    clear hin h hI
    go_enter Try.func102, Try.ntmps102
    go_wp2_with (first | ((with_reducible refine (imageOf_yes v R C f _ HI.out HII.out).mono ?_); rintro e w3 ⟨rfl, b3⟩) | ((with_reducible refine wpList_allocVec 25 3 rfl rfl rfl Try.zeroImg ?_); intro w4 h4 b4 s4; have hb := b3.trans (b4.mono b3.size)) | ((with_reducible refine wpList_storeVec h4 rfl (.tmp 3) (.tmp 8) rfl rfl rfl Try.sizeImg ?_); intro w5 h5 g5 s5; have hb5 := hb.trans (grown_below g5 (fun k hk => by cases hk; exact b3.size) hb.size)) | (with_reducible refine wpList_loadVec h5 12 rfl rfl _ rfl rfl Try.underlying78 Try.sizeImg ?_) | ((with_reducible refine (switches_any R C f _ HII.out).mono ?_); rintro e w6 ⟨u, rfl, hu, b6⟩))
    go_ret
    exact ⟨_, rfl, ownSws_base hu hb5.size, hb5.trans (b6.mono hb5.size)⟩
def uniqB (m : List (List Int)) : Bool := okB m && (swsM m).isEmpty
set_option maxHeartbeats 1000000 in
theorem implIsUnique_any (v : Value) (m : List (List Int)) (w : World) (hin : InMat w v m) : Calls Try.prog 50 #[v] w fun e w' => e = .returned (.bool (uniqB m)) ∧ Below w.heap.size w w' := by
  have HI := hide hin
  unfold uniqB
  cases h : okB m with
  | false =>
    have H := hide h
    clear hin h
    go_enter Try.func50, Try.ntmps50
    go_wp2_with ((with_reducible refine (implImageOk_any v m _ HI.out).mono ?_); rw [H.out]; rintro e w3 ⟨rfl, rfl⟩)
    go_ret
    exact ⟨rfl, Below.refl _ _⟩
  | true =>
    have H := hide h
    have HS := hide (show swsOf m = swsM m by unfold swsOf; rw [h]; rfl)
    have HL := hide (show (swsM m).length ≤ 625 from upS_len m 625)
    clear hin h
    obtain ⟨l, hl⟩ : ∃ l, l = swsM m := ⟨_, rfl⟩
    rw [← hl] at HS HL ⊢
    clear hl
    go_enter Try.func50, Try.ntmps50
    go_wp2_with (first | ((with_reducible refine (implImageOk_any v m _ HI.out).mono ?_); rw [H.out]; rintro e w3 ⟨rfl, rfl⟩) | ((with_reducible refine (implSwitchesOf_any v m _ HI.out).mono ?_); rw [HS.out]; rintro e w6 ⟨u, rfl, hu, b6⟩; obtain ⟨ua, uc, rfl⟩ := ownA_slice hu; clear hu))
    go_ret
    exact ⟨ret_bool (by cases l <;> simp <;> omega), b6⟩
end Go.Proofs.Ytcliiefedmiokaa
/-
  The conjugate of the conjugate is the list in descending order; a staircase has the sums that it is made from, and no switch.
-/
namespace Go.Proofs.Ytcliiefedmiokaa
open Go.RowKit

theorem rowF_succ (n : Nat) (g : Nat → Int) : rowF (n + 1) g = rowF n g ++ [g n] := by simp [rowF, List.range_succ]
theorem countP_rowF (p : Int → Bool) (g : Nat → Int) : ∀ n, (rowF n g).countP p = cnt (fun y => p (g y)) n
  | 0 => rfl
  | n + 1 => by
    rw [rowF_succ, List.countP_append, countP_rowF p g n, cnt]
    cases h : p (g n) <;> simp [h]
theorem cnt_min (a : Nat) : ∀ C, cnt (fun x => decide (x < a)) C = min a C
  | 0 => by simp [cnt]
  | C + 1 => by
    rw [cnt, cnt_min a C]
    by_cases h : C < a
    · rw [if_pos (by simpa using h)]; omega
    · rw [if_neg (by simpa using h)]; omega
theorem sum_step (P : Nat → Nat → Bool) (C : Nat) : ∀ R, (rowF R fun y => ((cnt (P y) (C + 1) : Nat) : Int)).sum = (rowF R fun y => ((cnt (P y) C : Nat) : Int)).sum + (cnt (fun y => P y C) R : Nat)
  | 0 => rfl
  | R + 1 => by
    rw [rowF_succ, rowF_succ, List.sum_append, List.sum_append, sum_step P C R, cnt, cnt]
    cases P R C <;> simp <;> omega
theorem sum_zero (g : Nat → Int) (h : ∀ y, g y = 0) : ∀ R, (rowF R g).sum = 0
  | 0 => rfl
  | R + 1 => by rw [rowF_succ, List.sum_append, sum_zero g h R, h]; rfl
theorem dual_sum (P : Nat → Nat → Bool) (R : Nat) : ∀ C, (rowF C fun x => ((cnt (fun y => P y x) R : Nat) : Int)).sum = (rowF R fun y => ((cnt (P y) C : Nat) : Int)).sum
  | 0 => (sum_zero (fun y => ((cnt (P y) 0 : Nat) : Int)) (fun _ => rfl) R).symm
  | C + 1 => by rw [rowF_succ, List.sum_append, dual_sum P R C, sum_step P C R]; simp
theorem desc_at (t : Int) : ∀ (s : List Int), Desc s → ∀ y, (hy : y < s.length) → (y + 1 ≤ atLeast t s ↔ t ≤ s[y])
  | [], _, y, hy => by simp at hy
  | a :: l, h, y, hy => by
    obtain ⟨h1, h2⟩ := List.pairwise_cons.1 h
    have hc : atLeast t (a :: l) = atLeast t l + if t ≤ a then 1 else 0 := by
      unfold atLeast; rw [List.countP_cons]; by_cases e : t ≤ a <;> simp [e]
    rw [hc]
    by_cases e : t ≤ a
    · rw [if_pos e]
      cases y with
      | zero => simp [e]
      | succ y =>
        have := desc_at t l h2 y (by simpa using hy)
        simp only [List.getElem_cons_succ]
        rw [← this]; omega
    · rw [if_neg e]
      have h0 : atLeast t l = 0 := List.countP_eq_zero.2 fun x hx => by have := h1 x hx; simp; omega
      have hy2 : (a :: l)[y] ≤ a := by
        cases y with
        | zero => exact Int.le_refl _
        | succ y => exact h1 _ (by simp)
      rw [h0]; omega
theorem atLeast_perm {a b : List Int} (h : a.Perm b) (t : Int) : atLeast t a = atLeast t b := h.countP_eq _
/-- Numbers of black cells, as a list. -/
def natF (R : Nat) (rr : Nat → Nat) : List Int := rowF R fun y => ((rr y : Nat) : Int)
theorem natF_at {R : Nat} {rr : Nat → Nat} (y : Nat) (h : y < (natF R rr).length) : (natF R rr)[y] = (rr y : Nat) := by simp [natF, rowF]
theorem natF_getD {R : Nat} {rr : Nat → Nat} {y : Nat} (h : y < R) : (natF R rr).getD y 0 = rr y := by simp [natF, rowF, h]
theorem natF_any {R C : Nat} {rr : Nat → Nat} (h : ∀ y, y < R → rr y ≤ C) : (natF R rr).any (badB C) = false := any_no fun i hi => by
  have hi' : i < R := by simpa [natF, rowF_len] using hi
  have := h i hi'
  rw [natF_at]
  simp [badB]; omega
theorem natF_ok {R C : Nat} {rr : Nat → Nat} (h : ∀ y, y < R → rr y ≤ C) (hR : R ≤ 5) (hC : 1 ≤ C ∧ C ≤ 5) : conjOk (natF R rr) C = true := by
  unfold conjOk
  rw [natF_any h, decide_eq_true (show (1 : Int) ≤ C ∧ (C : Int) ≤ 5 by omega), decide_eq_true (show (natF R rr).length ≤ 5 by simpa [natF, rowF_len] using hR)]; rfl
theorem conj_natF {R C : Nat} {rr : Nat → Nat} (h : ∀ y, y < R → rr y ≤ C) (hR : R ≤ 5) (hC : 1 ≤ C ∧ C ≤ 5) : conjRes (natF R rr) C = natF C fun x => cnt (fun y => decide (x < rr y)) R := by
  rw [conjRes, if_pos (natF_ok h hR hC), Int.toNat_natCast]
  refine tabL_congr fun k hk => ?_
  rw [atLeast, natF, countP_rowF]
  have : cnt (fun y => decide ((k : Int) + 1 ≤ ((rr y : Nat) : Int))) R = cnt (fun y => decide (k < rr y)) R := cnt_congr fun y _ => by
    rw [Bool.eq_iff_iff]; simp; omega
  rw [this]
theorem conj_conj {R C : Nat} {rr : Nat → Nat} (h : ∀ y, y < R → rr y ≤ C) (hR : 1 ≤ R ∧ R ≤ 5) (hC : 1 ≤ C ∧ C ≤ 5) : conjRes (conjRes (natF R rr) C) R = sortD (natF R rr) := by
  rw [conj_natF h hR.2 hC, conj_natF (fun x _ => cnt_le _ _) hC.2 hR]
  have hp := sortD_perm (natF R rr)
  have hd := sortD_desc (natF R rr)
  have hl : (sortD (natF R rr)).length = R := by rw [sortD_len]; simp [natF, rowF_len]
  refine List.ext_getElem (by rw [hl]; simp [natF, rowF_len]) fun y h1 h2 => ?_
  have hy : y < R := by rw [hl] at h2; exact h2
  have hs : ∃ q, q < R ∧ (sortD (natF R rr))[y] = rr q := by
    have hm : (sortD (natF R rr))[y] ∈ natF R rr := hp.mem_iff.1 (List.getElem_mem h2)
    simp only [natF, rowF, List.mem_map, List.mem_range] at hm
    obtain ⟨q, hq, e⟩ := hm
    exact ⟨q, hq, e.symm⟩
  obtain ⟨q, hq, hs⟩ := hs
  have hqC := h q hq
  rw [hs]
  rw [natF_at]
  have hc : cnt (fun x => decide (y < cnt (fun y => decide (x < rr y)) R)) C = cnt (fun x => decide (x < rr q)) C := cnt_congr fun x _ => by
    have e1 : cnt (fun y => decide (x < rr y)) R = atLeast ((x : Int) + 1) (natF R rr) := by
      rw [atLeast, natF, countP_rowF]
      exact cnt_congr fun y _ => by rw [Bool.eq_iff_iff]; simp; omega
    rw [e1, ← atLeast_perm hp]
    have e2 := desc_at ((x : Int) + 1) _ hd y h2
    rw [hs] at e2
    rw [Bool.eq_iff_iff]
    simp only [decide_eq_true_eq]
    constructor
    · intro e; have := e2.1 (by omega); omega
    · intro e; have := e2.2 (by omega); omega
  rw [hc, cnt_min, Nat.min_eq_left hqC]
/-- The staircase of these numbers. -/
theorem stairF_nat {R : Nat} {rr : Nat → Nat} {y : Nat} (hy : y < R) (x : Nat) : stairF (natF R rr) y x = if x < rr y then 1 else 0 := by
  unfold stairF begF
  rw [natF_getD hy]
  by_cases h : x < rr y
  · rw [if_pos h, if_pos (by omega)]
  · rw [if_neg h, if_neg (by omega)]
theorem stair_img {R C : Nat} {rr : Nat → Nat} (hR : 1 ≤ R ∧ R ≤ 5) (hC : 1 ≤ C ∧ C ≤ 5) : Img R C (stairF (natF R rr)) := ⟨hR.1, hR.2, hC.1, hC.2, fun y x hy _ => by
  rw [stairF_nat hy]; by_cases h : x < rr y <;> simp [h]⟩
theorem stair_rows {R C : Nat} {rr : Nat → Nat} (h : ∀ y, y < R → rr y ≤ C) : rowsL R C (stairF (natF R rr)) = natF R rr := rowF_congr fun y hy => by
  have : rs C (stairF (natF R rr)) y = rr y := by
    unfold rs
    rw [cnt_congr (q := fun x => decide (x < rr y)) fun x _ => by rw [stairF_nat hy]; by_cases e : x < rr y <;> simp [e], cnt_min, Nat.min_eq_left (h y hy)]
  rw [this]
theorem stair_cols {R C : Nat} {rr : Nat → Nat} (h : ∀ y, y < R → rr y ≤ C) (hR : R ≤ 5) (hC : 1 ≤ C ∧ C ≤ 5) : rowsL C R (trM (stairF (natF R rr))) = conjRes (natF R rr) C := by
  rw [conj_natF h hR hC]
  refine rowF_congr fun x _ => ?_
  have : rs R (trM (stairF (natF R rr))) x = cnt (fun y => decide (x < rr y)) R := cnt_congr fun y hy => by
    rw [trM, stairF_nat hy]; by_cases e : x < rr y <;> simp [e]
  rw [this]
theorem stair_is {R C : Nat} {rr : Nat → Nat} (hR : 1 ≤ R ∧ R ≤ 5) (hC : 1 ≤ C ∧ C ≤ 5) : stairB (mkM R C (stairF (natF R rr))) = true := by
  unfold stairB
  rw [img_ok (stair_img hR hC)]
  have : ((mkM R C (stairF (natF R rr))).any fun r => !downB r) = false := by
    rw [List.any_eq_false]
    intro r hr
    simp only [mkM, List.mem_map, List.mem_range] at hr
    obtain ⟨y, hy, rfl⟩ := hr
    have : downB (rowF C (stairF (natF R rr) y)) = true := (downB_iff _).2 (desc_of_next fun x h1 => by
      rw [rowF_at, rowF_at, stairF_nat hy, stairF_nat hy]
      by_cases e : x + 1 < rr y
      · rw [if_pos e, if_pos (by omega)]; exact Int.le_refl _
      · rw [if_neg e]; by_cases e2 : x < rr y <;> simp [e2])
    rw [this]; decide
  rw [this]; rfl
theorem stair_unique {R C : Nat} {rr : Nat → Nat} (hR : 1 ≤ R ∧ R ≤ 5) (hC : 1 ≤ C ∧ C ≤ 5) : uniqB (mkM R C (stairF (natF R rr))) = true := by
  have hI := stair_img (R := R) (C := C) (rr := rr) hR hC
  unfold uniqB
  rw [img_ok hI, Bool.true_and, List.isEmpty_iff]
  refine List.eq_nil_iff_forall_not_mem.2 fun s hs => ?_
  have h1 := (sws_mem ⟨_, rfl, hI⟩).1 hs
  rw [swB_mk hI] at h1
  obtain ⟨a, b, c, d, -, h2⟩ := swF_iff.1 h1
  obtain ⟨g1, g2, g3, g4, g5, g6, g7⟩ := four_iff.1 h2
  rw [stairF_nat g3, stairF_nat (by omega)] at g5 g7
  rw [stairF_nat (by omega), stairF_nat (by omega)] at g6
  by_cases e1 : c < rr a <;> by_cases e2 : d < rr a <;> by_cases e3 : c < rr b <;> by_cases e4 : d < rr b <;> simp [e1, e2, e3, e4] at g5 g6 g7 <;> omega
theorem natF_total {R C : Nat} {rr : Nat → Nat} (h : ∀ y, y < R → rr y ≤ C) (hR : R ≤ 5) (hC : 1 ≤ C ∧ C ≤ 5) : (conjRes (natF R rr) C).sum = (natF R rr).sum := by
  rw [conj_natF h hR hC]
  unfold natF
  rw [dual_sum (fun y x => decide (x < rr y)) R C]
  congr 1
  exact rowF_congr fun y hy => by rw [cnt_min, Nat.min_eq_left (h y hy)]
theorem rowsL_nat (R C : Nat) (f : Nat → Nat → Int) : rowsL R C f = natF R (rs C f) := rfl
theorem rs_le (C : Nat) (f : Nat → Nat → Int) (y : Nat) : rs C f y ≤ C := cnt_le _ _
theorem natF_small {R : Nat} {rr : Nat → Nat} {C : Nat} (h : ∀ y, y < R → rr y ≤ C) (hR : R ≤ 5) (hC : C ≤ 5) : SmallL (natF R rr) := ⟨by simpa [natF, rowF_len] using hR, fun i hi => by
  have hi' : i < R := by simpa [natF, rowF_len] using hi
  have := h i hi'
  rw [natF_at]; omega⟩
end Go.Proofs.Ytcliiefedmiokaa
