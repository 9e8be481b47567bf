/-
  Texts of this claim, one behind the other: Gsz, GszB, LawsGz, Hold, DetI, LawsDt, MatR, Img.
-/
import Derived.Test.YtiajdmoppgpgnaaPackE
import Derived.BigQuiet
import Derived.Test.YtiajdmoppgpgnaaPackB
import Derived.Deep.CutRange
import Derived.Test.YtiajdmoppgpgnaaPackA
/-
  The size of the basic ghost, of the model and of the program.
-/
namespace Go.Proofs.Ytiajdmoppgpgnaa
open Go.RowKit Go.Katz
set_option maxRecDepth 100000

def tallD (d : Int × Int) : Int := if 0 ≤ d.2 then d.2 else -d.2
theorem tallD_max (d : Int × Int) : max d.2 (-d.2) = tallD d := by unfold tallD; split <;> omega
theorem upI_snoc (l : List (Int × Int)) (d : Int × Int) : upI (l ++ [d]) = upI l + tallD d := by simp [upI, tallD]
theorem overI_snoc (l : List (Int × Int)) (d : Int × Int) : overI (l ++ [d]) = overI l + d.1 := by simp [overI]
theorem up_range : ∀ l : List (Int × Int), (∀ d ∈ l, Near d.1 d.2) → 0 ≤ upI l ∧ upI l ≤ 3 * l.length ∧ 0 ≤ overI l ∧ overI l ≤ 3 * l.length
  | [], _ => by simp [upI, overI]
  | d :: l, h => by
    obtain ⟨h1, h2, h3, h4⟩ := up_range l fun e he => h e (List.mem_cons_of_mem _ he)
    obtain ⟨n1, n2, n3, n4⟩ := h d List.mem_cons_self
    have e1 : upI (d :: l) = tallD d + upI l := by simp [upI, tallD]
    have e2 : overI (d :: l) = d.1 + overI l := by simp [overI]
    have e3 : 0 ≤ tallD d ∧ tallD d ≤ 3 := by unfold tallD; split <;> omega
    rw [e1, e2, List.length_cons]
    omega
theorem dirsB_near {l : List (Int × Int)} (h : dirsB l = true) : ∀ d ∈ l, Near d.1 d.2 := fun d hd => by
  obtain ⟨i, hi, rfl⟩ := List.getElem_of_mem hd
  exact near_of (dirsB_at h hi).1

theorem ret_pair {a b c d : Int} (h1 : a = c) (h2 : b = d) : Ending.returned (.agg #[.int .i64 a, .int .i64 b]) = .returned (.agg #[.int .i64 c, .int .i64 d]) := by rw [h1, h2]
set_option maxHeartbeats 1000000 in
theorem grownBy_any (r c dx dy : Int) (w : World) (hr : 0 ≤ r ∧ r ≤ 100) (hc : 0 ≤ c ∧ c ≤ 100) (hn : Near dx dy) :
    Calls Try.prog 115 #[.agg #[.int .i64 r, .int .i64 c], .agg #[.int .i64 dx, .int .i64 dy]] w fun e w' => e = .returned (.agg #[.int .i64 (r + tallD (dx, dy)), .int .i64 (c + dx)]) ∧ Below w.heap.size w w' := by
  obtain ⟨n1, n2, n3, n4⟩ := hn
  have l1 : IntKind.i64.wrap (-dy) = -dy := IntWalk.i64_in _ (by omega)
  have hm : -3 ≤ max dy (-dy) ∧ max dy (-dy) ≤ 3 := by omega
  have l2 : IntKind.i64.wrap (r + max dy (-dy)) = r + max dy (-dy) := IntWalk.i64_in _ (by omega)
  have l3 : IntKind.i64.wrap (c + dx) = c + dx := IntWalk.i64_in _ (by omega)
  rw [← tallD_max]
  simp only
  go_enter Try.func115, Try.ntmps115
  go_wp2
  all_goals
    refine bodyPost_ret (v := .agg #[.int .i64 (r + max dy (-dy)), .int .i64 (c + dx)]) ?_ rfl ⟨rfl, (((Below.refl _ _).alloc (Nat.le_refl _) _).alloc (by simp) _).alloc (by simp; omega) _⟩
    first | rw [show max dy (-dy) = dy by omega] | rw [show max dy (-dy) = -dy by omega]
    simp [results, Try.results115, go_sem]

/-- A size in a variable. -/
def SizeAt (w : World) (g : Nat) (r c : Int) : Prop := w.heap[g]? = some (.cells #[.int .i64 r, .int .i64 c] 73 (0, 0))
theorem sizeAt_lt {w : World} {g : Nat} {r c : Int} (h : SizeAt w g r c) : g < w.heap.size := (Array.getElem?_eq_some_iff.1 h).1
theorem sizeAt_below {w w' : World} {g : Nat} {r c : Int} (h : SizeAt w g r c) (hb : Below w.heap.size w w') : SizeAt w' g r c := by
  unfold SizeAt; rw [hb.block g (sizeAt_lt h)]; exact h
theorem sizeAt_cells {w : World} {g : Nat} {r c : Int} (h : SizeAt w g r c) : w.cell? ⟨g, 0, none⟩ = some (.int .i64 r) ∧ w.cell? ⟨g, 1, none⟩ = some (.int .i64 c) :=
  ⟨by rw [cell_of_row w g 0 _ _ _ h]; rfl, by rw [cell_of_row w g 1 _ _ _ h]; rfl⟩
theorem Try.sizeSz : (Try.prog.info? 73).map (·.size) = some 2 := by kernel_rfl
theorem wpList_loadSz {ops : Array Oper} {rest : List Oper} {o : Oper} {a : Act} {Q : Exit → Act → World → Prop} {W : World} {g : Nat} {r c : Int} (hb : SizeAt W g r c)
    (hgd : o.guard = none) (x : Operand) (ho : o.op = .load 73 x) (hx : a.eval x = .pointer (some ⟨g, 0, none⟩))
    (h : wpList Try.prog ops Q rest (a.put o.dst (.agg #[.int .i64 r, .int .i64 c])) W) : wpList Try.prog ops Q (o :: rest) a W :=
  wpList_load_row hgd _ x ho g hx _ _ (0, 0) _ hb Try.underlying73 rfl Try.sizeSz h
theorem exec_loadSz {ρ : Operand → Value} {o : Oper} {w : World} {x : Operand} {g : Nat} {r c : Int} (ho : o.op = .load 73 x) (hx : ρ x = .pointer (some ⟨g, 0, none⟩)) (hb : SizeAt w g r c) : (execOp ρ o).run Try.prog w = .ok (.value (.agg #[.int .i64 r, .int .i64 c])) w := by
  unfold execOp
  simp only [ho, hx]
  obtain ⟨h0, h1⟩ := sizeAt_cells hb
  go_simp
theorem wpList_storeSz {ops : Array Oper} {rest : List Oper} {o : Oper} {a : Act} {Q : Exit → Act → World → Prop} {W : World} {g : Nat} {r0 c0 : Int} (hb : SizeAt W g r0 c0) (r c : Int)
    (hgd : o.guard = none) (x y : Operand) (ho : o.op = .store 73 x y) (hx : a.eval x = .pointer (some ⟨g, 0, none⟩)) (hy : a.eval y = .agg #[.int .i64 r, .int .i64 c])
    (h : ∀ w', SizeAt w' g r c → W.grownBy w' (some g) → w'.heap.size = W.heap.size → wpList Try.prog ops Q rest (a.put o.dst undef) w') : wpList Try.prog ops Q (o :: rest) a W := by
  refine wpList_plain hgd fun K hK => ?_
  unfold Oper.wp execOp
  simp only [ho, hx, hy, Instr.storeAt, Instr.sureAddr, Sem.run_bind, Sem.run_pure, Result.andThen_ok, run_storeVar_row W g 73 73 #[.int .i64 r0, .int .i64 c0] #[.int .i64 r, .int .i64 c] hb (by rw [Try.sizeSz]; rfl) rfl (by simp [Value.oneCell'])]
  exact hK _ _ (h _ (setRow_heap W g _ _ _ (0, 0) hb) ⟨rfl, rfl, rfl, by simp, fun k hk hr => setRow_other W g k _ (fun e => hr (by rw [e]))⟩ (by simp))
theorem sizeAt_grown {w w' : World} {g : Nat} {r c : Int} {row : Option Nat} (h : SizeAt w g r c) (hg : w.grownBy w' row) (hr : row ≠ some g) : SizeAt w' g r c := by
  unfold SizeAt; rw [hg.block g (sizeAt_lt h) (Ne.symm hr)]; exact h

set_option maxHeartbeats 2000000 in
theorem ghostSize_any (v : Value) (l : List (Int × Int)) (w : World) (hin : InDrs w v l) (hl : ∀ d ∈ l, Near d.1 d.2) (h4 : l.length ≤ 4) :
    Calls Try.prog 76 #[v] w fun e w' => e = .returned (.agg #[.int .i64 (1 + upI l), .int .i64 (1 + overI l)]) ∧ Below w.heap.size w w' := by
  obtain ⟨a, c, rfl, -, hp⟩ := hin
  have HP := hide hp; have HL := hide hl
  obtain ⟨n, hn⟩ : ∃ n, n = l.length := ⟨_, rfl⟩
  have HN := hide hn
  rw [← hn] at h4 ⊢
  clear hp hl hn
  go_enter Try.func76, Try.ntmps76
  go_wp2
  have hb1 : Below w.heap.size w (w.alloc (.cells #[.int .i64 0, .int .i64 0] 73)) := (Below.refl _ _).alloc (Nat.le_refl _) _
  have hb2 := hb1.alloc hb1.size (.cells #[.int .i64 1, .int .i64 1] 73)
  go_loopw [9] (fun i w' => ∃ k : Nat, k ≤ n ∧ i = .int .i64 k ∧ SizeAt w' w.heap.size 0 0 ∧ SizeAt w' (w.heap.size + 1) (1 + upI (l.take k)) (1 + overI (l.take k)) ∧ Below w.heap.size w w') (fun i _ => n - (intOf i).toNat)
  case atStart =>
    refine ⟨0, Nat.zero_le _, rfl, sizeAt_below (heap_alloc_new w _) ((Below.refl _ _).alloc (Nat.le_refl _) _), ?_, hb2⟩
    have := heap_alloc_new (w.alloc (.cells #[.int .i64 0, .int .i64 0] 73)) (.cells #[.int .i64 1, .int .i64 1] 73)
    simpa [SizeAt, upI, overI] using this
  case round =>
    obtain ⟨k, hk, rfl, h0, h1, hb⟩ := hrel
    have H0 := hide h0; have H1 := hide h1; have HB := hide hb
    clear h0 h1 hb
    by_cases hlt : k < n
    · have hltI : (k : Int) < n := by omega
      have hkl : k < l.length := by rw [← HN.out]; exact hlt
      obtain ⟨g, o, rfl, hg, hcl⟩ := HP.out.resolve_left (by rw [← HN.out]; omega)
      have hc := drC_below (hcl k hkl) HB.out hg
      have HTK : Hid (1 + upI (l.take (k + 1)) = 1 + upI (l.take k) + tallD l[k] ∧ 1 + overI (l.take (k + 1)) = 1 + overI (l.take k) + l[k].1) := hide (by
        rw [List.take_succ_eq_append_getElem hkl, upI_snoc, overI_snoc]; omega)
      have HNR := hide (HL.out _ (List.getElem_mem hkl))
      have hr := up_range (l.take k) fun e he => HL.out e (List.mem_of_mem_take he)
      rw [List.length_take] at hr
      obtain ⟨r1, r2, r3, r4⟩ := hr
      obtain ⟨U, hU⟩ : ∃ U, U = 1 + upI (l.take k) := ⟨_, rfl⟩
      obtain ⟨V, hV⟩ : ∃ V, V = 1 + overI (l.take k) := ⟨_, rfl⟩
      have hUb : 0 ≤ U ∧ U ≤ 100 := by omega
      have hVb : 0 ≤ V ∧ V ≤ 100 := by omega
      rw [← hU, ← hV] at H1 HTK
      obtain ⟨d, hd⟩ : ∃ d, d = l[k] := ⟨_, rfl⟩
      rw [← hd] at hc HTK HNR
      have HUB := hide hUb; have HVB := hide hVb
      clear hcl hU hV hd r1 r2 r3 r4 hUb hVb
      obtain ⟨dx, dy⟩ := d
      obtain ⟨c0, c1⟩ := hc
      simp only at c0 c1
      have HBX : Hid (Below wr.heap.size wr (wr.alloc (.cells #[.int .i64 dx, .int .i64 dy] 36))) := hide ((Below.refl _ _).alloc (Nat.le_refl _) _)
      have HD1 : Hid (DirAt (wr.alloc (.cells #[.int .i64 dx, .int .i64 dy] 36)) wr.heap.size dx dy) := hide (heap_alloc_new wr _)
      have HS1 := hide (sizeAt_below H1.out HBX.out)
      have HS0 := hide (sizeAt_below H0.out HBX.out)
      have HB1 := hide (HB.out.trans (HBX.out.mono HB.out.size))
      go_wp2_with (first | (with_reducible refine wpList_loadSz HS1.out rfl _ rfl rfl ?_) | (with_reducible refine wpList_loadDir HD1.out rfl _ rfl rfl ?_) | ((with_reducible refine (grownBy_any U V dx dy _ HUB.out HVB.out HNR.out).mono ?_); rintro e w2 ⟨rfl, hb⟩; have HS2 := hide (sizeAt_below HS1.out hb); have HT2 := hide (sizeAt_below HS0.out hb); have HB2 := hide (HB1.out.trans (hb.mono HB1.out.size)); clear hb) | ((with_reducible refine wpList_storeSz HS2.out (U + tallD (dx, dy)) (V + dx) rfl _ _ rfl rfl rfl ?_); intro w3 hs hg3 hz; have HS3 := hide hs; have HT3 := hide (sizeAt_grown HT2.out hg3 (by simp)); have HB3 := hide (HB2.out.trans (grown_below hg3 (fun q hq => by cases hq; omega) HB2.out.size)); clear hs hg3 hz))
      go_roundw
      case rel => exact ⟨k + 1, by omega, by go_num, HT3.out, by rw [HTK.out.1, HTK.out.2]; exact HS3.out, HB3.out⟩
      case measure => simp [intOf]; omega
    · obtain rfl : k = n := by omega
      have HE : Hid (l.take k = l) := hide (List.take_of_length_le (by rw [HN.out]; exact Nat.le_refl _))
      rw [HE.out] at H1
      go_wp2_with (first | (with_reducible refine wpList_loadSz H1.out rfl _ rfl rfl ?_) | ((with_reducible refine wpList_storeSz H0.out (1 + upI l) (1 + overI l) rfl _ _ rfl rfl rfl ?_); intro w3 hs hg3 hz; have HS3 := hide hs; have HB3 := hide (HB.out.trans (grown_below hg3 (fun q hq => by cases hq; omega) HB.out.size)); clear hg3 hz))
      refine bodyPost_ret (v := .agg #[.int .i64 (1 + upI l), .int .i64 (1 + overI l)]) ?_ rfl ⟨rfl, HB3.out⟩
      obtain ⟨q0, q1⟩ := sizeAt_cells HS3.out
      simp [results, Try.results76, go_sem, q0, q1]
end Go.Proofs.Ytiajdmoppgpgnaa
/-
  GhostSize of both.
-/
namespace Go.Proofs.Ytiajdmoppgpgnaa
open Go.RowKit Go.Katz
set_option maxRecDepth 100000

def gzR (l : List (Int × Int)) : Int := if dirsB l = true then 1 + upI l else 0
def gzC (l : List (Int × Int)) : Int := if dirsB l = true then 1 + overI l else 0
set_option maxHeartbeats 2000000 in
theorem implGhostSize_any (v : Value) (l : List (Int × Int)) (w : World) (hin : DrsC w v l) :
    Calls Try.prog 36 #[v] w fun e w' => e = .returned (.tuple #[.int .i64 (gzR l), .int .i64 (gzC l)]) ∧ Below w.heap.size w w' := by
  have HIN := hide hin
  obtain ⟨a, c, rfl, hlc, -⟩ := hin
  have HOK := hide fun w h => implDirsOk_any (.slice a l.length c) l w h
  cases hd : dirsB l with
  | false =>
    rw [hd] at HOK
    have HD := hide hd
    clear hd hlc
    go_enter Try.func36, Try.ntmps36
    go_wp2_with ((with_reducible refine (HOK.out _ HIN.out).mono ?_); rintro e w1 ⟨rfl, hb⟩; have HB := hide hb; clear hb)
    go_ret2
    exact ⟨by rw [gzR, gzC, HD.out]; rfl, HB.out⟩
  | true =>
    rw [hd] at HOK
    have HD := hide hd
    have HG := hide fun w h => ghostSize_any (.slice a l.length c) l w h (dirsB_near hd) (dirsB_len hd).2
    have HR : Hid (gzR l = 1 + upI l ∧ gzC l = 1 + overI l) := hide ⟨if_pos hd, if_pos hd⟩
    obtain ⟨U, hU⟩ : ∃ U, U = 1 + upI l := ⟨_, rfl⟩
    obtain ⟨V, hV⟩ : ∃ V, V = 1 + overI l := ⟨_, rfl⟩
    rw [← hU, ← hV] at HG HR
    clear hd hlc hU hV
    rw [HR.out.1, HR.out.2]
    go_enter Try.func36, Try.ntmps36
    go_wp2_with (first | ((with_reducible refine (HOK.out _ HIN.out).mono ?_); rintro e w1 ⟨rfl, hb⟩; have HB := hide hb; clear hb) | ((with_reducible refine (HG.out _ (drsC_in (drsC_below HIN.out HB.out))).mono ?_); rintro e w2 ⟨rfl, hb⟩; have HB2 := hide (HB.out.trans (hb.mono HB.out.size)); have hbx : Below w2.heap.size w2 (w2.alloc (.cells #[.int .i64 U, .int .i64 V] 73)) := (Below.refl _ _).alloc (Nat.le_refl _) _; have HB3 := hide (HB2.out.trans (hbx.mono HB2.out.size)); clear hb hbx))
    go_quiet (fail)
    go_wp2
    go_ret2
    exact ⟨rfl, below_draws HB3.out _⟩

set_option maxHeartbeats 2000000 in
theorem specGhostSize_any (v : Value) (l : List (Int × Int)) (w : World) (hin : DrsC w v l) :
    Calls Try.prog 35 #[v] w fun e w' => e = .returned (.tuple #[.int .i64 (gzR l), .int .i64 (gzC l)]) ∧ Below w.heap.size w w' := by
  have HIN := hide hin
  obtain ⟨a, c, rfl, hlc, hm, hp⟩ := hin
  have HOK := hide fun w h => specDirsOk_any (.slice a l.length c) l w h
  have HP := hide hp
  unfold maxLen at hm
  have hml : l.length ≤ 2 ^ 63 - 1 := by omega
  cases hd : dirsB l with
  | false =>
    rw [hd] at HOK
    have HD := hide hd
    clear hd hlc
    go_enter Try.func35, Try.ntmps35
    go_wp2_with ((with_reducible refine (HOK.out _ HIN.out).mono ?_); rintro e w1 ⟨rfl, hb⟩; have HB := hide hb; clear hb)
    go_ret2
    exact ⟨by rw [gzR, gzC, HD.out]; rfl, HB.out⟩
  | true =>
    rw [hd] at HOK
    have HD := hide hd
    have HR : Hid (gzR l = 1 + upI l ∧ gzC l = 1 + overI l) := hide ⟨if_pos hd, if_pos hd⟩
    rw [HR.out.1, HR.out.2]
    have HL := hide (dirsB_near hd)
    have h4 := (dirsB_len hd).2
    obtain ⟨n, hn⟩ : ∃ n, n = l.length := ⟨_, rfl⟩
    have HN := hide hn
    rw [← hn] at HOK HIN hml h4 ⊢
    clear hd hlc hn hp
    go_enter Try.func35, Try.ntmps35
    go_wp2_with ((with_reducible refine (HOK.out _ HIN.out).mono ?_); rintro e w1 ⟨rfl, hb⟩; have HB := hide hb; clear hb)
    go_loopw [4, 5, 13] (fun u s i w' => ∃ k : Nat, k ≤ n ∧ i = .int .i64 k ∧ u = .int .i64 (1 + upI (l.take k)) ∧ s = .int .i64 (1 + overI (l.take k)) ∧ Below w.heap.size w w') (fun _ _ i _ => n - (intOf i).toNat)
    case atStart => exact ⟨0, Nat.zero_le _, rfl, rfl, rfl, HB.out⟩
    case round =>
      obtain ⟨k, hk, rfl, rfl, rfl, hb⟩ := hrel
      have HB2 := hide hb
      clear hb
      by_cases hlt : k < n
      · have hltI : (k : Int) < n := by omega
        have hkl : k < l.length := by rw [← HN.out]; exact hlt
        obtain ⟨g, o, rfl, hg, hcl⟩ := HP.out.resolve_left (by rw [← HN.out]; omega)
        have hc := drC_below (hcl k hkl) HB2.out hg
        have HTK : Hid (1 + upI (l.take (k + 1)) = 1 + upI (l.take k) + tallD l[k] ∧ 1 + overI (l.take (k + 1)) = 1 + overI (l.take k) + l[k].1) := hide (by
          rw [List.take_succ_eq_append_getElem hkl, upI_snoc, overI_snoc]; omega)
        obtain ⟨n1, n2, n3, n4⟩ := HL.out _ (List.getElem_mem hkl)
        have hr := up_range (l.take k) fun e he => HL.out e (List.mem_of_mem_take he)
        rw [List.length_take] at hr
        obtain ⟨r1, r2, r3, r4⟩ := hr
        obtain ⟨U, hU⟩ : ∃ U, U = 1 + upI (l.take k) := ⟨_, rfl⟩
        obtain ⟨V, hV⟩ : ∃ V, V = 1 + overI (l.take k) := ⟨_, rfl⟩
        have hUb : 0 ≤ U ∧ U ≤ 100 := by omega
        have hVb : 0 ≤ V ∧ V ≤ 100 := by omega
        rw [← hU, ← hV] at HTK ⊢
        obtain ⟨d, hd⟩ : ∃ d, d = l[k] := ⟨_, rfl⟩
        rw [← hd] at hc HTK n1 n2 n3 n4
        clear hcl hU hV hd r1 r2 r3 r4
        obtain ⟨dx, dy⟩ := d
        obtain ⟨c0, c1⟩ := hc
        simp only at c0 c1 n1 n2 n3 n4
        have HBX : Hid (Below wr.heap.size wr (wr.alloc (.cells #[.int .i64 dx, .int .i64 dy] 36))) := hide ((Below.refl _ _).alloc (Nat.le_refl _) _)
        have HB3 := hide (HB2.out.trans (HBX.out.mono HB2.out.size))
        have l1 : IntKind.i64.wrap (-dy) = -dy := IntWalk.i64_in _ (by omega)
        have l3 : IntKind.i64.wrap (V + dx) = V + dx := IntWalk.i64_in _ (by omega)
        have l4 : IntKind.i64.wrap (U + dy) = U + dy := IntWalk.i64_in _ (by omega)
        have l5 : IntKind.i64.wrap (U + -dy) = U + -dy := IntWalk.i64_in _ (by omega)
        have HT : Hid (tallD (dx, dy) = max dy (-dy)) := hide (tallD_max (dx, dy)).symm
        go_wp2
        all_goals
          go_roundw
          case rel => exact ⟨k + 1, by omega, by go_num, by rw [HTK.out.1, HT.out, show (if dy < -dy then -dy else dy) = max dy (-dy) by split <;> omega], by rw [HTK.out.2], HB3.out⟩
          case measure => simp [intOf]; omega
      · obtain rfl : k = n := by omega
        have HE : Hid (l.take k = l) := hide (List.take_of_length_le (by rw [HN.out]; exact Nat.le_refl _))
        rw [HE.out]
        go_wp2
        go_ret2
        exact ⟨rfl, HB2.out⟩
end Go.Proofs.Ytiajdmoppgpgnaa
/-
  The exact law on GhostSize, walked.
-/
namespace Go.Proofs.Ytiajdmoppgpgnaa
open Go.RowKit
set_option linter.unusedVariables false

set_option maxRecDepth 100000 in
set_option maxHeartbeats 4000000 in
theorem lawGhostSize_gen (a0 : Option Addr) (n0 c0 : Nat) (l0 : List (Int × Int)) (w : World) (hin0 : InDrs w (.slice a0 n0 c0) l0) (v_0 : Int) (v_1 : Int) 
    (hs : ∀ (v0 : Value) (w : World), DrsC w v0 l0 → Calls Try.prog 35 #[v0] w (fun e w' => e = .returned (.tuple #[.int .i64 v_0, .int .i64 v_1]) ∧ Below w.heap.size w w'))
    (hi : ∀ (v0 : Value) (w : World), DrsC w v0 l0 → Calls Try.prog 36 #[v0] w (fun e w' => e = .returned (.tuple #[.int .i64 v_0, .int .i64 v_1]) ∧ Below w.heap.size w w')) :
    Calls Try.prog 7 #[.slice a0 n0 c0] w fun e w' => e = .returned (.bool true) ∧ Below w.heap.size w w' := by
  have HI0 := hide hin0
  obtain ⟨a', c', he, hm0, -⟩ := hin0
  cases he
  unfold maxLen at hm0
  go_enter Try.func7, Try.ntmps7
  go_wp2_with fail
  refine (szDirectionS_any _ l0 (1048576) _ (by omega) HI0.out).mono ?_
  rintro e w1 ⟨q0, rfl, hq0, rfl⟩
  rcases hq0 with rfl | ⟨hsz0, rfl⟩
  · go_wp2
    go_ret
    exact ⟨rfl, Below.refl _ _⟩
  · skip
    have HZ0 : Hid (l0.length ≤ 1048576) := hide (by omega)
    have HS := hide (hs); have HM := hide (hi)
    clear hs hi
    go_wp2_with fail
    refine (toDirectionS_any _ l0 _ (by have := HZ0.out; omega) HI0.out).mono ?_
    rintro e w2 ⟨p0, rfl, ho, hb⟩
    have P0L := hide (fun k e => World.ownsRow.lt (ho) k e)
    have P0_2 := hide (ho)
    have HB2 := hide (hb)
    have s2 := hb.size
    clear ho hb
    go_wp2_with fail
    refine (HS.out p0 _ (drsC_own P0_2.out)).mono ?_
    rintro e w3 ⟨rfl, hb⟩
    have HB3 := hide (HB2.out.trans (hb.mono HB2.out.size))
    have s3 := hb.size
    clear hb
    go_wp2_with fail
    refine (toDirectionS_any _ l0 _ (by have := HZ0.out; omega) (inDrs_below HI0.out HB3.out)).mono ?_
    rintro e w4 ⟨x0, rfl, ho, hb⟩
    have X0L := hide (fun k e => World.ownsRow.lt (ho) k e)
    have X0_4 := hide (ho)
    have HB4 := hide (HB3.out.trans (hb.mono HB3.out.size))
    have s4 := hb.size
    clear ho hb
    go_wp2_with fail
    refine (HM.out x0 _ (drsC_own X0_4.out)).mono ?_
    rintro e w5 ⟨rfl, hb⟩
    have X0_5 := hide (ownDrs_below X0_4.out hb)
    have HB5 := hide (HB4.out.trans (hb.mono HB4.out.size))
    have s5 := hb.size
    clear hb
    go_wp2_with fail
    refine (toDirectionS_any _ l0 _ (by have := HZ0.out; omega) (inDrs_below HI0.out HB5.out)).mono ?_
    rintro e w6 ⟨z0, rfl, ho, hb⟩
    have X0_6 := hide (ownDrs_below X0_5.out hb)
    have Z0L := hide (fun k e => World.ownsRow.lt (ho) k e)
    have Z0_6 := hide (ho)
    have HB6 := hide (HB5.out.trans (hb.mono HB5.out.size))
    have s6 := hb.size
    clear ho hb
    go_wp2_with fail
    refine (eqDirectionS_same x0 z0 l0 _ (inDrs_own X0_6.out) (inDrs_own Z0_6.out)).mono ?_
    rintro e w7 ⟨rfl, hb⟩
    have X0_7 := hide (ownDrs_below X0_6.out hb)
    have HB7 := hide (HB6.out.trans (hb.mono HB6.out.size))
    have s7 := hb.size
    clear hb
    go_wp2
    go_ret
    exact ⟨rfl, HB7.out⟩

theorem lawGhostSize_walk (a0 : Option Addr) (n0 c0 : Nat) (l0 : List (Int × Int)) (w : World) (hin0 : InDrs w (.slice a0 n0 c0) l0) :
    Calls Try.prog 7 #[.slice a0 n0 c0] w fun e w' => e = .returned (.bool true) ∧ Below w.heap.size w w' :=
  lawGhostSize_gen a0 n0 c0 l0 w hin0 (gzR l0) (gzC l0) (fun v0 w h0 => specGhostSize_any v0 l0 w h0) (fun v0 w h0 => implGhostSize_any v0 l0 w h0)
end Go.Proofs.Ytiajdmoppgpgnaa
/-
  A size that is that of an image; a rectangle within another one.
-/
namespace Go.Proofs.Ytiajdmoppgpgnaa
open Go.RowKit Go.Katz
set_option maxRecDepth 100000

set_option maxHeartbeats 1000000 in
theorem sizeok_any (r c : Int) (w : World) :
    Calls Try.prog 77 #[.agg #[.int .i64 r, .int .i64 c]] w fun e w' => e = .returned (.bool (sizeOk r c)) ∧ Below w.heap.size w w' := by
  have HS : Hid (sizeOk r c = (decide (1 ≤ r ∧ r ≤ 5) && decide (1 ≤ c ∧ c ≤ 5))) := hide rfl
  by_cases h1 : 1 ≤ r ∧ r ≤ 5
  · have H1 := hide (decide_eq_true h1)
    clear h1
    go_enter Try.func77, Try.ntmps77
    go_wp2_with (first | (with_reducible refine (sideOk_any r _).mono ?_; rw [H1.out]; rintro e w' ⟨rfl, rfl⟩) | (with_reducible refine (sideOk_any c _).mono ?_; rintro e w' ⟨rfl, rfl⟩))
    go_ret
    exact ⟨ret_bool (by rw [HS.out, H1.out]; simp), (Below.refl _ _).alloc (Nat.le_refl _) _⟩
  · have H1 := hide (decide_eq_false h1)
    clear h1
    go_enter Try.func77, Try.ntmps77
    go_wp2_with (first | (with_reducible refine (sideOk_any r _).mono ?_; rw [H1.out]; rintro e w' ⟨rfl, rfl⟩))
    go_ret
    exact ⟨ret_bool (by rw [HS.out, H1.out]; rfl), (Below.refl _ _).alloc (Nat.le_refl _) _⟩

def holdsB (a b c d y x : Int) : Bool := decide (0 ≤ y) && decide (y ≤ a - c) && decide (0 ≤ x) && decide (x ≤ b - d)
set_option maxHeartbeats 2000000 in
theorem holds_any (a b c d y x : Int) (w : World) (ha : 0 ≤ a ∧ a ≤ 100) (hb : 0 ≤ b ∧ b ≤ 100) (hc : 0 ≤ c ∧ c ≤ 100) (hd : 0 ≤ d ∧ d ≤ 100) :
    Calls Try.prog 79 #[.agg #[.int .i64 a, .int .i64 b], .agg #[.int .i64 c, .int .i64 d], .int .i64 y, .int .i64 x] w fun e w' => e = .returned (.bool (holdsB a b c d y x)) ∧ Below w.heap.size w w' := by
  have l1 : IntKind.i64.wrap (a - c) = a - c := IntWalk.i64_in _ (by omega)
  have l2 : IntKind.i64.wrap (b - d) = b - d := IntWalk.i64_in _ (by omega)
  have HB : Hid (Below w.heap.size w ((w.alloc (.cells #[.int .i64 a, .int .i64 b] 73)).alloc (.cells #[.int .i64 c, .int .i64 d] 73))) := hide (((Below.refl _ _).alloc (Nat.le_refl _) _).alloc (by simp) _)
  clear ha hb hc hd
  by_cases h1 : 0 ≤ y
  · by_cases h2 : y ≤ a - c
    · by_cases h3 : 0 ≤ x
      · have HE : Hid (holdsB a b c d y x = decide (x ≤ b - d)) := hide (by simp [holdsB, h1, h2, h3])
        rw [HE.out]
        go_enter Try.func79, Try.ntmps79
        go_wp2
        go_ret
        exact ⟨rfl, HB.out⟩
      · have HE : Hid (holdsB a b c d y x = false) := hide (by simp [holdsB, h3])
        rw [HE.out]
        go_enter Try.func79, Try.ntmps79
        go_wp2
        go_ret
        exact ⟨rfl, HB.out⟩
    · have HE : Hid (holdsB a b c d y x = false) := hide (by simp [holdsB, h2])
      rw [HE.out]
      go_enter Try.func79, Try.ntmps79
      go_wp2
      go_ret
      exact ⟨rfl, HB.out⟩
  · have HE : Hid (holdsB a b c d y x = false) := hide (by simp [holdsB, h1])
    rw [HE.out]
    go_enter Try.func79, Try.ntmps79
    go_wp2
    go_ret
    exact ⟨rfl, HB.out⟩

/-- The rows are fewer than the ghost's, or the columns. -/
def detB (rows cols : Int) (l : List (Int × Int)) : Bool := sizeOk rows cols && dirsB l && (decide (rows < gzR l) || decide (cols < gzC l))
set_option maxHeartbeats 2000000 in
theorem specDet_any (rows cols : Int) (v : Value) (l : List (Int × Int)) (w : World) (hin : DrsC w v l) :
    Calls Try.prog 37 #[.int .i64 rows, .int .i64 cols, v] w fun e w' => e = .returned (.bool (detB rows cols l)) ∧ Below w.heap.size w w' := by
  have HIN := hide hin
  have HG := hide fun w h => specGhostSize_any v l w h
  have hgz : Hid (dirsB l = decide (0 < gzR l)) := hide (by
    unfold gzR
    cases h : dirsB l with
    | false => simp
    | true =>
      have := up_range l (dirsB_near h)
      rw [if_pos rfl, decide_eq_true (by omega)])
  have HE : Hid (detB rows cols l = (sizeOk rows cols && decide (0 < gzR l) && (decide (rows < gzR l) || decide (cols < gzC l)))) := hide (by rw [detB, hgz.out])
  obtain ⟨U, hU⟩ : ∃ U, U = gzR l := ⟨_, rfl⟩
  obtain ⟨V, hV⟩ : ∃ V, V = gzC l := ⟨_, rfl⟩
  rw [← hU, ← hV] at HG HE
  rw [HE.out]
  clear hin hU hV hgz HE
  cases hs : sizeOk rows cols with
  | false =>
    have HS := hide hs
    clear hs
    go_enter Try.func37, Try.ntmps37
    go_wp2_with (first | ((with_reducible refine (HG.out _ HIN.out).mono ?_); rintro e w1 ⟨rfl, hb⟩; have HB := hide hb; clear hb) | (with_reducible refine (l03Size_any rows cols _).mono ?_; rw [HS.out]; rintro e w' ⟨rfl, rfl⟩))
    go_ret
    exact ⟨rfl, HB.out⟩
  | true =>
    have HS := hide hs
    clear hs
    by_cases h1 : 0 < U
    · have H1 := hide (decide_eq_true h1)
      by_cases h2 : rows < U
      · have H2 := hide (decide_eq_true h2)
        go_enter Try.func37, Try.ntmps37
        go_wp2_with (first | ((with_reducible refine (HG.out _ HIN.out).mono ?_); rintro e w1 ⟨rfl, hb⟩; have HB := hide hb; clear hb) | (with_reducible refine (l03Size_any rows cols _).mono ?_; rw [HS.out]; rintro e w' ⟨rfl, rfl⟩))
        go_ret
        exact ⟨ret_bool (by rw [H1.out, H2.out]; rfl), HB.out⟩
      · have H2 := hide (decide_eq_false h2)
        go_enter Try.func37, Try.ntmps37
        go_wp2_with (first | ((with_reducible refine (HG.out _ HIN.out).mono ?_); rintro e w1 ⟨rfl, hb⟩; have HB := hide hb; clear hb) | (with_reducible refine (l03Size_any rows cols _).mono ?_; rw [HS.out]; rintro e w' ⟨rfl, rfl⟩))
        go_ret
        exact ⟨ret_bool (by rw [H1.out, H2.out]; rfl), HB.out⟩
    · have H1 := hide (decide_eq_false h1)
      go_enter Try.func37, Try.ntmps37
      go_wp2_with (first | ((with_reducible refine (HG.out _ HIN.out).mono ?_); rintro e w1 ⟨rfl, hb⟩; have HB := hide hb; clear hb) | (with_reducible refine (l03Size_any rows cols _).mono ?_; rw [HS.out]; rintro e w' ⟨rfl, rfl⟩))
      go_ret
      exact ⟨ret_bool (by rw [H1.out]; rfl), HB.out⟩
end Go.Proofs.Ytiajdmoppgpgnaa
/-
  IsDetermined of the program.
-/
namespace Go.Proofs.Ytiajdmoppgpgnaa
open Go.RowKit Go.Katz
set_option maxRecDepth 100000

set_option maxHeartbeats 4000000 in
theorem implDet_any (rows cols : Int) (v : Value) (l : List (Int × Int)) (w : World) (hin : DrsC w v l) :
    Calls Try.prog 38 #[.int .i64 rows, .int .i64 cols, v] w fun e w' => e = .returned (.bool (detB rows cols l)) ∧ Below w.heap.size w w' := by
  have HIN := hide hin
  obtain ⟨a, c, rfl, -⟩ := hin
  have HOK := hide fun w h => implDirsOk_any (.slice a l.length c) l w h
  have HB := hide ((Below.refl w.heap.size w).alloc (Nat.le_refl _) (.cells #[.int .i64 rows, .int .i64 cols] 73))
  have HZ : Hid (SizeAt (w.alloc (.cells #[.int .i64 rows, .int .i64 cols] 73)) w.heap.size rows cols) := hide (heap_alloc_new w _)
  cases hs : sizeOk rows cols with
  | false =>
    have HS := hide hs
    have HE : Hid (detB rows cols l = false) := hide (by rw [detB, hs]; rfl)
    rw [HE.out]
    obtain ⟨n, hn⟩ : ∃ n, n = l.length := ⟨_, rfl⟩
    rw [← hn] at HIN HOK ⊢
    clear hs hn
    go_enter Try.func38, Try.ntmps38
    go_upto_region 2 with fail
    obtain ⟨fs, hfs⟩ : ∃ fs : List FactP, fs = [(isV (.agg #[.int .i64 rows, .int .i64 cols])), (isV (.bool false)), (isV (.bool false)), (isV (undef)), (isV (undef)), (isV (.bool false)), (isV (.bool false)), (isV (undef)), (isV (undef)), (isV (undef)), (isV (undef)), (isV (undef)), (isV (.bool false))] := ⟨_, rfl⟩
    have hst : ∀ f ∈ fs, StableP f := by
      rw [hfs]; intro f hf
      simp only [List.mem_cons, List.not_mem_nil, or_false] at hf
      rcases hf with rfl | rfl | rfl | rfl | rfl | rfl | rfl | rfl | rfl | rfl | rfl | rfl | rfl <;> exact stable_v _
    subst hfs
    refine wp_region_g (S := fun w2 => SizeAt w2 w.heap.size rows cols ∧ Below w.heap.size w w2) [(isV (.agg #[.int .i64 rows, .int .i64 cols])), (isV (.bool false)), (isV (.bool false)), (isV (undef)), (isV (undef)), (isV (.bool false)), (isV (.bool false)), (isV (undef)), (isV (undef)), (isV (undef)), (isV (undef)), (isV (undef)), (isV (.bool false))] [(7, .pointer (some ⟨w.heap.size, 0, none⟩))] _ _ 13 (by kernel_rfl) rfl rfl (by kernel_rfl) (by kernel_rfl) rfl (by kernel_rfl) ?base ⟨HZ.out, below_drew HB.out⟩ ?ob rfl ?fin
    case base =>
      intro t v ht
      simp only [List.lookup_cons, List.lookup_nil] at ht
      repeat' split at ht
      all_goals first | (cases ht; done) | (obtain rfl := Option.some.inj ht; rename_i hh; obtain rfl := eq_of_beq hh; rfl)
    case ob =>
      exact ⟨obg_of rfl (obt_one (.agg #[.int .i64 rows, .int .i64 cols]) rfl rfl (srt_b 7 rfl) (fun ρ w2 hS hx => exec_loadSz rfl hx hS.1)),
        obg_of rfl (obt_call hst [.agg #[.int .i64 rows, .int .i64 cols]] rfl Try.func77 (by kernel_rfl) (by kernel_rfl) rfl ⟨(srt_j 0 rfl (by kernel_rfl) rfl), trivial⟩ (fun w2 hS => (sizeok_any rows cols w2).mono fun e w3 ⟨he, hh⟩ => ⟨_, he.trans (by rw [HS.out]), ⟨sizeAt_below hS.1 hh, hS.2.trans (hh.mono hS.2.size)⟩, hh, rfl⟩)),
        obg_of rfl (obt_move (.bool false) rfl rfl rfl (srt_j 1 rfl (by kernel_rfl) rfl)),
        obg_no 2 rfl rfl (by kernel_rfl) rfl rfl,
        obg_no 2 rfl rfl (by kernel_rfl) rfl rfl,
        obg_of rfl (obt_pick_f (.bool false) rfl rfl rfl (srt_j 2 rfl (by kernel_rfl) rfl) (srt_c (v := .bool false))),
        obg_of rfl (obt_move (.bool false) rfl rfl rfl (srt_j 5 rfl (by kernel_rfl) rfl)),
        obg_no 6 rfl rfl (by kernel_rfl) rfl rfl,
        obg_no 6 rfl rfl (by kernel_rfl) rfl rfl,
        obg_no 6 rfl rfl (by kernel_rfl) rfl rfl,
        obg_no 6 rfl rfl (by kernel_rfl) rfl rfl,
        obg_no 6 rfl rfl (by kernel_rfl) rfl rfl,
        obg_of rfl (obt_pick_f (.bool false) rfl rfl rfl (srt_j 6 rfl (by kernel_rfl) rfl) (srt_c (v := .bool false))),
        trivial⟩
    case fin =>
      intro a' w' h1 h2 h3 hS h4 K hK
      have hv : a'.eval (.tmp 23) = .bool false := h4 12 23 rfl (by decide)
      refine tail_assign rfl hv ?_ K hK
      go_wp2
      exact bodyPost_ret (results_tmp rfl _ _ _) rfl ⟨congrArg Ending.returned (set_get (n := 24) h1 (by decide)), hS.2⟩
  | true =>
    have HS := hide hs
    have hsz := sizeOk_yes hs
    cases hd : dirsB l with
    | false =>
      have HE : Hid (detB rows cols l = false) := hide (by rw [detB, hs, hd]; rfl)
      rw [HE.out]
      rw [hd] at HOK
      obtain ⟨n, hn⟩ : ∃ n, n = l.length := ⟨_, rfl⟩
      rw [← hn] at HIN HOK ⊢
      clear hs hd hn hsz
      go_enter Try.func38, Try.ntmps38
      go_upto_region 2 with fail
      obtain ⟨fs, hfs⟩ : ∃ fs : List FactP, fs = [(isV (.agg #[.int .i64 rows, .int .i64 cols])), (isV (.bool true)), (isV (.bool true)), (isV (.slice a n c)), (isV (.bool false)), (isV (.bool false)), (isV (.bool false)), (isV (undef)), (isV (undef)), (isV (undef)), (isV (undef)), (isV (undef)), (isV (.bool false))] := ⟨_, rfl⟩
      have hst : ∀ f ∈ fs, StableP f := by
        rw [hfs]; intro f hf
        simp only [List.mem_cons, List.not_mem_nil, or_false] at hf
        rcases hf with rfl | rfl | rfl | rfl | rfl | rfl | rfl | rfl | rfl | rfl | rfl | rfl | rfl <;> exact stable_v _
      subst hfs
      refine wp_region_g (S := fun w2 => SizeAt w2 w.heap.size rows cols ∧ Below w.heap.size w w2) [(isV (.agg #[.int .i64 rows, .int .i64 cols])), (isV (.bool true)), (isV (.bool true)), (isV (.slice a n c)), (isV (.bool false)), (isV (.bool false)), (isV (.bool false)), (isV (undef)), (isV (undef)), (isV (undef)), (isV (undef)), (isV (undef)), (isV (.bool false))] [(2, .slice a n c), (7, .pointer (some ⟨w.heap.size, 0, none⟩))] _ _ 13 (by kernel_rfl) rfl rfl (by kernel_rfl) (by kernel_rfl) rfl (by kernel_rfl) ?base ⟨HZ.out, below_drew HB.out⟩ ?ob rfl ?fin
      case base =>
        intro t v ht
        simp only [List.lookup_cons, List.lookup_nil] at ht
        repeat' split at ht
        all_goals first | (cases ht; done) | (obtain rfl := Option.some.inj ht; rename_i hh; obtain rfl := eq_of_beq hh; rfl)
      case ob =>
        exact ⟨obg_of rfl (obt_one (.agg #[.int .i64 rows, .int .i64 cols]) rfl rfl (srt_b 7 rfl) (fun ρ w2 hS hx => exec_loadSz rfl hx hS.1)),
          obg_of rfl (obt_call hst [.agg #[.int .i64 rows, .int .i64 cols]] rfl Try.func77 (by kernel_rfl) (by kernel_rfl) rfl ⟨(srt_j 0 rfl (by kernel_rfl) rfl), trivial⟩ (fun w2 hS => (sizeok_any rows cols w2).mono fun e w3 ⟨he, hh⟩ => ⟨_, he.trans (by rw [HS.out]), ⟨sizeAt_below hS.1 hh, hS.2.trans (hh.mono hS.2.size)⟩, hh, rfl⟩)),
          obg_of rfl (obt_move (.bool true) rfl rfl rfl (srt_j 1 rfl (by kernel_rfl) rfl)),
          obg_yes 2 rfl rfl (by kernel_rfl) rfl (obt_move (.slice a n c) rfl rfl rfl (srt_b 2 rfl)),
          obg_yes 2 rfl rfl (by kernel_rfl) rfl (obt_call hst [.slice a n c] rfl Try.func17 (by kernel_rfl) (by kernel_rfl) rfl ⟨(srt_j 3 rfl (by kernel_rfl) rfl), trivial⟩ (fun w2 hS => (HOK.out w2 (drsC_below HIN.out hS.2)).mono fun e w3 ⟨he, hh⟩ => ⟨_, he, ⟨sizeAt_below hS.1 hh, hS.2.trans (hh.mono hS.2.size)⟩, hh, rfl⟩)),
          obg_of rfl (obt_pick_t (.bool false) rfl rfl rfl (srt_j 2 rfl (by kernel_rfl) rfl) (srt_j 4 rfl (by kernel_rfl) rfl)),
          obg_of rfl (obt_move (.bool false) rfl rfl rfl (srt_j 5 rfl (by kernel_rfl) rfl)),
          obg_no 6 rfl rfl (by kernel_rfl) rfl rfl,
          obg_no 6 rfl rfl (by kernel_rfl) rfl rfl,
          obg_no 6 rfl rfl (by kernel_rfl) rfl rfl,
          obg_no 6 rfl rfl (by kernel_rfl) rfl rfl,
          obg_no 6 rfl rfl (by kernel_rfl) rfl rfl,
          obg_of rfl (obt_pick_f (.bool false) rfl rfl rfl (srt_j 6 rfl (by kernel_rfl) rfl) (srt_c (v := .bool false))),
          trivial⟩
      case fin =>
        intro a' w' h1 h2 h3 hS h4 K hK
        have hv : a'.eval (.tmp 23) = .bool false := h4 12 23 rfl (by decide)
        refine tail_assign rfl hv ?_ K hK
        go_wp2
        exact bodyPost_ret (results_tmp rfl _ _ _) rfl ⟨congrArg Ending.returned (set_get (n := 24) h1 (by decide)), hS.2⟩
    | true =>
      rw [hd] at HOK
      have HG := hide fun w h => ghostSize_any (.slice a l.length c) l w h (dirsB_near hd) (dirsB_len hd).2
      have hr := up_range l (dirsB_near hd)
      have hl4 := dirsB_len hd
      have HE : Hid (detB rows cols l = !holdsB rows cols (1 + upI l) (1 + overI l) 0 0) := hide (by
        rw [detB, hs, hd, gzR, gzC, hd]
        simp only [holdsB, Bool.true_and, if_true, Int.le_refl, decide_true]
        rw [Bool.eq_iff_iff]
        simp)
      rw [HE.out]
      have HRB : Hid ((0 ≤ rows ∧ rows ≤ 100) ∧ (0 ≤ cols ∧ cols ≤ 100) ∧ (0 ≤ 1 + upI l ∧ 1 + upI l ≤ 100) ∧ (0 ≤ 1 + overI l ∧ 1 + overI l ≤ 100)) := hide (by omega)
      obtain ⟨U, hU⟩ : ∃ U, U = 1 + upI l := ⟨_, rfl⟩
      obtain ⟨V, hV⟩ : ∃ V, V = 1 + overI l := ⟨_, rfl⟩
      rw [← hU, ← hV] at HG HRB ⊢
      obtain ⟨n, hn⟩ : ∃ n, n = l.length := ⟨_, rfl⟩
      rw [← hn] at HIN HOK HG ⊢
      clear hs hd hn hU hV hsz hr HE hl4
      go_enter Try.func38, Try.ntmps38
      go_upto_region 2 with fail
      obtain ⟨fs, hfs⟩ : ∃ fs : List FactP, fs = [(isV (.agg #[.int .i64 rows, .int .i64 cols])), (isV (.bool true)), (isV (.bool true)), (isV (.slice a n c)), (isV (.bool true)), (isV (.bool true)), (isV (.bool true)), (isV (.agg #[.int .i64 rows, .int .i64 cols])), (isV (.slice a n c)), (isV (.agg #[.int .i64 U, .int .i64 V])), (isV (.bool (holdsB rows cols U V 0 0))), (isV (.bool (!holdsB rows cols U V 0 0))), (isV (.bool (!holdsB rows cols U V 0 0)))] := ⟨_, rfl⟩
      have hst : ∀ f ∈ fs, StableP f := by
        rw [hfs]; intro f hf
        simp only [List.mem_cons, List.not_mem_nil, or_false] at hf
        rcases hf with rfl | rfl | rfl | rfl | rfl | rfl | rfl | rfl | rfl | rfl | rfl | rfl | rfl <;> exact stable_v _
      subst hfs
      refine wp_region_g (S := fun w2 => SizeAt w2 w.heap.size rows cols ∧ Below w.heap.size w w2) [(isV (.agg #[.int .i64 rows, .int .i64 cols])), (isV (.bool true)), (isV (.bool true)), (isV (.slice a n c)), (isV (.bool true)), (isV (.bool true)), (isV (.bool true)), (isV (.agg #[.int .i64 rows, .int .i64 cols])), (isV (.slice a n c)), (isV (.agg #[.int .i64 U, .int .i64 V])), (isV (.bool (holdsB rows cols U V 0 0))), (isV (.bool (!holdsB rows cols U V 0 0))), (isV (.bool (!holdsB rows cols U V 0 0)))] [(2, .slice a n c), (7, .pointer (some ⟨w.heap.size, 0, none⟩))] _ _ 13 (by kernel_rfl) rfl rfl (by kernel_rfl) (by kernel_rfl) rfl (by kernel_rfl) ?base ⟨HZ.out, below_drew HB.out⟩ ?ob rfl ?fin
      case base =>
        intro t v ht
        simp only [List.lookup_cons, List.lookup_nil] at ht
        repeat' split at ht
        all_goals first | (cases ht; done) | (obtain rfl := Option.some.inj ht; rename_i hh; obtain rfl := eq_of_beq hh; rfl)
      case ob =>
        exact ⟨obg_of rfl (obt_one (.agg #[.int .i64 rows, .int .i64 cols]) rfl rfl (srt_b 7 rfl) (fun ρ w2 hS hx => exec_loadSz rfl hx hS.1)),
          obg_of rfl (obt_call hst [.agg #[.int .i64 rows, .int .i64 cols]] rfl Try.func77 (by kernel_rfl) (by kernel_rfl) rfl ⟨(srt_j 0 rfl (by kernel_rfl) rfl), trivial⟩ (fun w2 hS => (sizeok_any rows cols w2).mono fun e w3 ⟨he, hh⟩ => ⟨_, he.trans (by rw [HS.out]), ⟨sizeAt_below hS.1 hh, hS.2.trans (hh.mono hS.2.size)⟩, hh, rfl⟩)),
          obg_of rfl (obt_move (.bool true) rfl rfl rfl (srt_j 1 rfl (by kernel_rfl) rfl)),
          obg_yes 2 rfl rfl (by kernel_rfl) rfl (obt_move (.slice a n c) rfl rfl rfl (srt_b 2 rfl)),
          obg_yes 2 rfl rfl (by kernel_rfl) rfl (obt_call hst [.slice a n c] rfl Try.func17 (by kernel_rfl) (by kernel_rfl) rfl ⟨(srt_j 3 rfl (by kernel_rfl) rfl), trivial⟩ (fun w2 hS => (HOK.out w2 (drsC_below HIN.out hS.2)).mono fun e w3 ⟨he, hh⟩ => ⟨_, he, ⟨sizeAt_below hS.1 hh, hS.2.trans (hh.mono hS.2.size)⟩, hh, rfl⟩)),
          obg_of rfl (obt_pick_t (.bool true) rfl rfl rfl (srt_j 2 rfl (by kernel_rfl) rfl) (srt_j 4 rfl (by kernel_rfl) rfl)),
          obg_of rfl (obt_move (.bool true) rfl rfl rfl (srt_j 5 rfl (by kernel_rfl) rfl)),
          obg_yes 6 rfl rfl (by kernel_rfl) rfl (obt_one (.agg #[.int .i64 rows, .int .i64 cols]) rfl rfl (srt_b 7 rfl) (fun ρ w2 hS hx => exec_loadSz rfl hx hS.1)),
          obg_yes 6 rfl rfl (by kernel_rfl) rfl (obt_move (.slice a n c) rfl rfl rfl (srt_b 2 rfl)),
          obg_yes 6 rfl rfl (by kernel_rfl) rfl (obt_call hst [.slice a n c] rfl Try.func76 (by kernel_rfl) (by kernel_rfl) rfl ⟨(srt_j 8 rfl (by kernel_rfl) rfl), trivial⟩ (fun w2 hS => (HG.out w2 (drsC_in (drsC_below HIN.out hS.2))).mono fun e w3 ⟨he, hh⟩ => ⟨_, he, ⟨sizeAt_below hS.1 hh, hS.2.trans (hh.mono hS.2.size)⟩, hh, rfl⟩)),
          obg_yes 6 rfl rfl (by kernel_rfl) rfl (obt_call hst [.agg #[.int .i64 rows, .int .i64 cols], .agg #[.int .i64 U, .int .i64 V], .int .i64 0, .int .i64 0] rfl Try.func79 (by kernel_rfl) (by kernel_rfl) rfl ⟨(srt_j 7 rfl (by kernel_rfl) rfl), (srt_j 9 rfl (by kernel_rfl) rfl), (srt_c (v := .int .i64 0)), (srt_c (v := .int .i64 0)), trivial⟩ (fun w2 hS => (holds_any rows cols U V 0 0 w2 HRB.out.1 HRB.out.2.1 HRB.out.2.2.1 HRB.out.2.2.2).mono fun e w3 ⟨he, hh⟩ => ⟨_, he, ⟨sizeAt_below hS.1 hh, hS.2.trans (hh.mono hS.2.size)⟩, hh, rfl⟩)),
          obg_yes 6 rfl rfl (by kernel_rfl) rfl (obt_one (.bool (!holdsB rows cols U V 0 0)) rfl rfl (srt_j 10 rfl (by kernel_rfl) rfl) (fun ρ w2 hS hx => exec_notg rfl hx)),
          obg_of rfl (obt_pick_t (.bool (!holdsB rows cols U V 0 0)) rfl rfl rfl (srt_j 6 rfl (by kernel_rfl) rfl) (srt_j 11 rfl (by kernel_rfl) rfl)),
          trivial⟩
      case fin =>
        intro a' w' h1 h2 h3 hS h4 K hK
        have hv : a'.eval (.tmp 23) = .bool (!holdsB rows cols U V 0 0) := h4 12 23 rfl (by decide)
        refine tail_assign rfl hv ?_ K hK
        go_wp2
        exact bodyPost_ret (results_tmp rfl _ _ _) rfl ⟨congrArg Ending.returned (set_get (n := 24) h1 (by decide)), hS.2⟩
end Go.Proofs.Ytiajdmoppgpgnaa
/-
  The exact law on IsDetermined, walked.
-/
namespace Go.Proofs.Ytiajdmoppgpgnaa
open Go.RowKit
set_option linter.unusedVariables false

set_option maxRecDepth 100000 in
set_option maxHeartbeats 4000000 in
theorem lawIsDetermined_gen (x0 : Int) (x1 : Int) (a2 : Option Addr) (n2 c2 : Nat) (l2 : List (Int × Int)) (w : World) (_ : (Lit.int .i64 x0).wf = true) (_ : (Lit.int .i64 x1).wf = true) (hin2 : InDrs w (.slice a2 n2 c2) l2) (v_0 : Bool) 
    (hs : ∀ (v2 : Value) (w : World), DrsC w v2 l2 → Calls Try.prog 37 #[.int .i64 x0, .int .i64 x1, v2] w (fun e w' => e = .returned (.bool v_0) ∧ Below w.heap.size w w'))
    (hi : ∀ (v2 : Value) (w : World), DrsC w v2 l2 → Calls Try.prog 38 #[.int .i64 x0, .int .i64 x1, v2] w (fun e w' => e = .returned (.bool v_0) ∧ Below w.heap.size w w')) :
    Calls Try.prog 8 #[.int .i64 x0, .int .i64 x1, .slice a2 n2 c2] w fun e w' => e = .returned (.bool true) ∧ Below w.heap.size w w' := by
  have HI2 := hide hin2
  obtain ⟨a', c', he, hm2, -⟩ := hin2
  cases he
  unfold maxLen at hm2
  have hbb0 : (v_0 != v_0) = false := by cases v_0 <;> rfl
  go_enter Try.func8, Try.ntmps8
  go_wp2_with fail
  refine (szDirectionS_any _ l2 (1048576) _ (by omega) HI2.out).mono ?_
  rintro e w1 ⟨q2, rfl, hq2, rfl⟩
  rcases hq2 with rfl | ⟨hsz2, rfl⟩
  · go_wp2
    go_ret
    exact ⟨rfl, Below.refl _ _⟩
  · skip
    have HZ2 : Hid (l2.length ≤ 1048576) := hide (by omega)
    have HS := hide (hs); have HM := hide (hi)
    clear hs hi
    go_wp2_with fail
    refine (toDirectionS_any _ l2 _ (by have := HZ2.out; omega) HI2.out).mono ?_
    rintro e w2 ⟨p2, rfl, ho, hb⟩
    have P2L := hide (fun k e => World.ownsRow.lt (ho) k e)
    have P2_2 := hide (ho)
    have HB2 := hide (hb)
    have s2 := hb.size
    clear ho hb
    go_wp2_with fail
    refine (HS.out p2 _ (drsC_own P2_2.out)).mono ?_
    rintro e w3 ⟨rfl, hb⟩
    have HB3 := hide (HB2.out.trans (hb.mono HB2.out.size))
    have s3 := hb.size
    clear hb
    go_wp2_with fail
    refine (toDirectionS_any _ l2 _ (by have := HZ2.out; omega) (inDrs_below HI2.out HB3.out)).mono ?_
    rintro e w4 ⟨x2, rfl, ho, hb⟩
    have X2L := hide (fun k e => World.ownsRow.lt (ho) k e)
    have X2_4 := hide (ho)
    have HB4 := hide (HB3.out.trans (hb.mono HB3.out.size))
    have s4 := hb.size
    clear ho hb
    go_wp2_with fail
    refine (HM.out x2 _ (drsC_own X2_4.out)).mono ?_
    rintro e w5 ⟨rfl, hb⟩
    have X2_5 := hide (ownDrs_below X2_4.out hb)
    have HB5 := hide (HB4.out.trans (hb.mono HB4.out.size))
    have s5 := hb.size
    clear hb
    go_wp2_with fail
    refine (toDirectionS_any _ l2 _ (by have := HZ2.out; omega) (inDrs_below HI2.out HB5.out)).mono ?_
    rintro e w6 ⟨z2, rfl, ho, hb⟩
    have X2_6 := hide (ownDrs_below X2_5.out hb)
    have Z2L := hide (fun k e => World.ownsRow.lt (ho) k e)
    have Z2_6 := hide (ho)
    have HB6 := hide (HB5.out.trans (hb.mono HB5.out.size))
    have s6 := hb.size
    clear ho hb
    go_wp2_with fail
    refine (eqDirectionS_same x2 z2 l2 _ (inDrs_own X2_6.out) (inDrs_own Z2_6.out)).mono ?_
    rintro e w7 ⟨rfl, hb⟩
    have X2_7 := hide (ownDrs_below X2_6.out hb)
    have HB7 := hide (HB6.out.trans (hb.mono HB6.out.size))
    have s7 := hb.size
    clear hb
    go_wp2
    go_ret
    exact ⟨rfl, HB7.out⟩

theorem lawIsDetermined_walk (x0 x1 : Int) (a2 : Option Addr) (n2 c2 : Nat) (l2 : List (Int × Int)) (w : World) (w0 : (Lit.int .i64 x0).wf = true) (w1 : (Lit.int .i64 x1).wf = true) (hin2 : InDrs w (.slice a2 n2 c2) l2) :
    Calls Try.prog 8 #[.int .i64 x0, .int .i64 x1, .slice a2 n2 c2] w fun e w' => e = .returned (.bool true) ∧ Below w.heap.size w w' :=
  lawIsDetermined_gen x0 x1 a2 n2 c2 l2 w w0 w1 hin2 (detB x0 x1 l2) (fun v2 w h2 => specDet_any x0 x1 v2 l2 w h2) (fun v2 w h2 => implDet_any x0 x1 v2 l2 w h2)
end Go.Proofs.Ytiajdmoppgpgnaa
/-
  What a call answers: a list of lists of its own, alone or with a bool.
-/
namespace Go.Proofs.Ytiajdmoppgpgnaa
open Go.RowKit

/-- The call answers a list of lists of its own. -/
def MatRes (rows : List (List Int)) (w : World) (e : Ending) (w' : World) : Prop := ∃ v, e = .returned v ∧ OwnMat w' w.heap.size w'.heap.size v rows ∧ Below w.heap.size w w'
theorem matRes_nil {w w' : World} (h : Below w.heap.size w w') : MatRes [] w (.returned (.slice none 0 0)) w' := ⟨_, rfl, ownMat_nil _ _ _, h⟩
/-- The call answers a list of lists of its own, and a bool. -/
def MatRes2 (rows : List (List Int)) (b : Bool) (w : World) (e : Ending) (w' : World) : Prop := ∃ v, e = .returned (.tuple #[v, .bool b]) ∧ OwnMat w' w.heap.size w'.heap.size v rows ∧ Below w.heap.size w w'
theorem matRes2_nil {w w' : World} (h : Below w.heap.size w w') : MatRes2 [] false w (.returned (.tuple #[.slice none 0 0, .bool false])) w' := ⟨_, rfl, ownMat_nil _ _ _, h⟩
theorem ownMat_some {w : World} {lo hi : Nat} {v : Value} {m : List (List Int)} (h : OwnMat w lo hi v m) (h0 : 0 < m.length) : ∃ g c, v = .slice (some ⟨g, 0, none⟩) m.length c := by
  obtain ⟨vs, hv, -⟩ := h
  obtain ⟨g, c, rfl, -⟩ := own_some hv h0
  exact ⟨g, c, rfl⟩
end Go.Proofs.Ytiajdmoppgpgnaa
/-
  Images by their cells: plain lists, what reads them and what owns them.
-/
namespace Go.Proofs.Ytiajdmoppgpgnaa
open Go.RowKit

def rowF (C : Nat) (f : Nat → Int) : List Int := (List.range C).map f
/-- The list of R rows of C cells. -/
def mkM (R C : Nat) (f : Nat → Nat → Int) : List (List Int) := (List.range R).map fun y => rowF C (f y)
theorem rowF_len (C : Nat) (f : Nat → Int) : (rowF C f).length = C := by simp [rowF]
theorem rowF_at (C : Nat) (f : Nat → Int) (x : Nat) (h : x < (rowF C f).length) : (rowF C f)[x] = f x := by simp [rowF]
theorem mkM_len (R C : Nat) (f : Nat → Nat → Int) : (mkM R C f).length = R := by simp [mkM]
theorem mkM_at (R C : Nat) (f : Nat → Nat → Int) (y : Nat) (h : y < (mkM R C f).length) : (mkM R C f)[y] = rowF C (f y) := by simp [mkM]
theorem rowF_congr {C : Nat} {f g : Nat → Int} (h : ∀ x, x < C → f x = g x) : rowF C f = rowF C g := List.map_congr_left fun x hx => h x (List.mem_range.1 hx)
theorem mkM_congr {R C : Nat} {f g : Nat → Nat → Int} (h : ∀ y x, y < R → x < C → f y x = g y x) : mkM R C f = mkM R C g :=
  List.map_congr_left fun y hy => rowF_congr fun x hx => h y x (List.mem_range.1 hy) hx
theorem mkM_succ (R C : Nat) (f : Nat → Nat → Int) : mkM (R + 1) C f = mkM R C f ++ [rowF C (f R)] := by simp [mkM, List.range_succ]
theorem rowF_set (C : Nat) (f : Nat → Int) (x : Nat) (v : Int) : (rowF C f).set x v = rowF C fun j => if j = x then v else f j := by
  apply List.ext_getElem
  · simp [rowF]
  · intro j h1 h2
    rw [List.getElem_set]
    by_cases e : x = j
    · subst e; simp [rowF]
    · simp [rowF, e, Ne.symm e]
theorem mkM_set (R C : Nat) (f : Nat → Nat → Int) (y x : Nat) (v : Int) : (mkM R C f).set y (rowF C fun j => if j = x then v else f y j) = mkM R C fun a b => if a = y ∧ b = x then v else f a b := by
  apply List.ext_getElem
  · simp [mkM]
  · intro j h1 h2
    rw [List.getElem_set]
    by_cases e : y = j
    · subst e; simp [mkM]
    · simp [mkM, e, Ne.symm e]
theorem cells_mkM (R C : Nat) (f : Nat → Nat → Int) : cellsM (mkM R C f) = R * C := by
  induction R with
  | zero => simp [mkM, cellsM]
  | succ R ih =>
    rw [mkM_succ]
    simp only [cellsM, List.map_append, List.sum_append, List.map_cons, List.map_nil, List.sum_cons, List.sum_nil, rowF_len] at ih ⊢
    rw [ih, Nat.succ_mul]; omega

/-- The cells of a valid image. -/
structure Img (R C : Nat) (f : Nat → Nat → Int) : Prop where
  r1 : 1 ≤ R
  r2 : R ≤ 5
  c1 : 1 ≤ C
  c2 : C ≤ 5
  cell : ∀ y x, y < R → x < C → f y x = 0 ∨ f y x = 1
theorem ok_img {m : List (List Int)} (h : okB m = true) : ∃ R C f, m = mkM R C f ∧ Img R C f := by
  simp only [okB, Bool.and_eq_true, decide_eq_true_eq, List.all_eq_true] at h
  obtain ⟨⟨⟨h1, h2⟩, h3, h4⟩, h5⟩ := h
  have hrow : ∀ y, (hy : y < m.length) → m[y].length = widthM m ∧ ∀ x, (hx : x < m[y].length) → m[y][x] = 0 ∨ m[y][x] = 1 := fun y hy => by
    have := h5 _ (List.getElem_mem hy)
    simp only [rowOk, Bool.and_eq_true, beq_iff_eq, List.all_eq_true] at this
    refine ⟨this.1, fun x hx => ?_⟩
    have := this.2 _ (List.getElem_mem hx)
    simpa [cellOk] using this
  refine ⟨m.length, widthM m, fun y x => (m.getD y []).getD x 0, ?_, h1, h2, h3, h4, fun y x hy hx => ?_⟩
  · apply List.ext_getElem
    · simp [mkM]
    · intro y hy1 hy2
      rw [mkM_at]
      apply List.ext_getElem
      · rw [rowF_len, (hrow y hy1).1]
      · intro x hx1 hx2
        rw [rowF_at, List.getD_eq_getElem?_getD, List.getD_eq_getElem?_getD, List.getElem?_eq_getElem hy1, Option.getD_some, List.getElem?_eq_getElem hx1]; rfl
  · have hx' : x < m[y].length := by rw [(hrow y hy).1]; exact hx
    have := (hrow y hy).2 x hx'
    simpa [List.getD_eq_getElem?_getD, List.getElem?_eq_getElem hy, List.getElem?_eq_getElem hx'] using this
theorem width_mkM {R C : Nat} {f : Nat → Nat → Int} (h : 0 < R) : widthM (mkM R C f) = C := by
  rw [width_at _ (by rw [mkM_len]; exact h), mkM_at, rowF_len]
theorem img_ok {R C : Nat} {f : Nat → Nat → Int} (h : Img R C f) : okB (mkM R C f) = true := by
  have hw := width_mkM (C := C) (f := f) (show 0 < R by have := h.r1; omega)
  refine okB_yes (by rw [mkM_len]; exact ⟨h.r1, h.r2⟩) (by rw [hw]; exact ⟨h.c1, h.c2⟩) fun k hk => ?_
  rw [hw, mkM_at]
  have hk' : k < R := by rw [mkM_len] at hk; exact hk
  refine rowOk_yes (rowF_len _ _) fun j hj => ?_
  rw [rowF_len] at hj
  rw [rowF_at]
  rcases h.cell k j hk' hj with e | e <;> rw [e] <;> rfl

/-- An image that is read: its rows' slices and its cells. -/
theorem inMat_img {w : World} {v : Value} {R C : Nat} {f : Nat → Nat → Int} (h : InMat w v (mkM R C f)) (hR : 0 < R) (hC : 0 < C) :
    ∃ g o c, v = .slice (some ⟨g, o, none⟩) R c ∧ g < w.heap.size ∧ ∀ y, y < R → ∃ g' o' c', w.cell? ⟨g, o + y, none⟩ = some (.slice (some ⟨g', o', none⟩) C c') ∧ g' < w.heap.size ∧ ∀ x, x < C → w.cell? ⟨g', o' + x, none⟩ = some (.int .i64 (f y x)) := by
  obtain ⟨a, c, rfl, -, hp⟩ := h
  obtain ⟨g, o, rfl, hg, hc⟩ := hp.resolve_left (by rw [mkM_len]; omega)
  refine ⟨g, o, c, by rw [mkM_len], hg, fun y hy => ?_⟩
  obtain ⟨u, hu, hr⟩ := hc y (by rw [mkM_len]; exact hy)
  rw [mkM_at] at hr
  obtain ⟨a', c', rfl, -, hp'⟩ := hr
  obtain ⟨g', o', rfl, hg', hc'⟩ := hp'.resolve_left (by rw [rowF_len]; omega)
  rw [rowF_len] at hu
  refine ⟨g', o', c', hu, hg', fun x hx => ?_⟩
  rw [hc' x (by rw [rowF_len]; exact hx), rowF_at]

/-- A cell of an image that the call owns: where it lies, and the image with another number in it. -/
theorem ownMat_cell {w : World} {lo hi g n c R C : Nat} {f : Nat → Nat → Int} (h : OwnMat w lo hi (.slice (some ⟨g, 0, none⟩) n c) (mkM R C f)) (y x : Nat) (hy : y < R) (hx : x < C) :
    ∃ g' c', w.cell? ⟨g, y, none⟩ = some (.slice (some ⟨g', 0, none⟩) C c') ∧ w.cell? ⟨g', x, none⟩ = some (.int .i64 (f y x)) ∧ w.frozen? ⟨g', x, none⟩ = false ∧ lo ≤ g' ∧ g' < hi ∧
      ∀ z : Int, OwnMat (w.setCell ⟨g', x, none⟩ (.int .i64 z)) lo hi (.slice (some ⟨g, 0, none⟩) n c) (mkM R C fun a b => if a = y ∧ b = x then z else f a b) := by
  obtain ⟨u, hu, -, hr, hh, hset⟩ := ownMat_row h y (by rw [mkM_len]; exact hy)
  rw [mkM_at, rowF_len] at hr hset
  obtain ⟨g', c', rfl, hlo, -, -, -, hc, hf⟩ := own_some hr (by omega)
  refine ⟨g', c', hu, ?_, hf x, hlo, hh _ rfl, fun z => ?_⟩
  · rw [hc x hx, ints_at _ x (by rw [rowF_len]; exact hx), rowF_at]
  · obtain ⟨h1, h2⟩ := hr.stored x (.int .i64 z)
    rw [ints_set, rowF_set] at h1
    have := hset _ _ h1 (rowF_len _ _) h2
    rw [mkM_set] at this; exact this

/-- The image as rows of five numbers, -1 where it has no cell. -/
def imgF (R C : Nat) (f : Nat → Nat → Int) (i : Nat) : Int := if i / 5 < R ∧ i % 5 < C then f (i / 5) (i % 5) else -1
theorem imgF_at (R C : Nat) (f : Nat → Nat → Int) (y x : Nat) (h : x < 5) : imgF R C f (5 * y + x) = if y < R ∧ x < C then f y x else -1 := by
  rw [imgF, show (5 * y + x) / 5 = y by omega, show (5 * y + x) % 5 = x by omega]
theorem imgF_range {R C : Nat} {f : Nat → Nat → Int} (h : Img R C f) (i : Nat) : imgF R C f i = -1 ∨ imgF R C f i = 0 ∨ imgF R C f i = 1 := by
  unfold imgF
  split
  · rename_i hh; rcases h.cell _ _ hh.1 hh.2 with e | e <;> simp [e]
  · exact .inl rfl

/-- How many of the first k numbers have p. -/
def cnt (p : Nat → Bool) : Nat → Nat
  | 0 => 0
  | k + 1 => cnt p k + if p k then 1 else 0
theorem cnt_yes {p : Nat → Bool} {k : Nat} (h : p k = true) : cnt p (k + 1) = cnt p k + 1 := by rw [cnt, if_pos h]
theorem cnt_no {p : Nat → Bool} {k : Nat} (h : p k = false) : cnt p (k + 1) = cnt p k := by rw [cnt, if_neg (by simp [h])]; rfl
theorem cnt_skip {p : Nat → Bool} {k l : Nat} (hkl : k ≤ l) (h : ∀ i, k ≤ i → i < l → p i = false) : cnt p l = cnt p k := by
  induction l with
  | zero => obtain rfl : k = 0 := by omega
            rfl
  | succ l ih =>
    by_cases e : k = l + 1
    · rw [e]
    · rw [cnt_no (h l (by omega) (by omega)), ih (by omega) fun i h1 h2 => h i h1 (by omega)]
theorem cnt_le (p : Nat → Bool) (k : Nat) : cnt p k ≤ k := by
  induction k with
  | zero => exact Nat.le_refl _
  | succ k ih => rw [cnt]; split <;> omega
def zeroM (_y _x : Nat) : Int := 0
end Go.Proofs.Ytiajdmoppgpgnaa
