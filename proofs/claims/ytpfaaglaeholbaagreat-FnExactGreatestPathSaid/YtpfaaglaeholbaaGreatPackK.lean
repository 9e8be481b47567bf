/-
  Texts of this claim, one behind the other: Srch, Pth, Path, SwH, Rev, Arr3.
-/
import Derived.Test.YtpfaaglaeholbaaGreatPackJ
import Derived.WalkMore
import Derived.Deep.LoopGhost
import Derived.Test.YtpfaaglaeholbaaGreatPackI
import Derived.Test.YtpfaaglaeholbaaGreatPackA
import Derived.Test.YtpfaaglaeholbaaGreatPackC
import Derived.RegionTactic
import Derived.BigRegion
/-
  searched of the program: a search in breadth.
-/
namespace Go.Proofs.YtpfaaglaeholbaaGreat
open Go.RowKit

/-- What stands through the search. -/
def SrSt (w : World) (R C : Nat) (t : List (List Int)) (L : List (List (List Int))) (W : List (List Sw)) (a n : Nat) (q : Value) (w' : World) : Prop :=
  OwnQ w' (w.heap.size + 3) 70 25 q n (queL R C (L.drop a)) ∧ ImgMap w' (w.heap.size + 2) (ksOf R C L W) ∧ Blk w' (w.heap.size + 1) 70 25 (imgC R C t) ∧ w.heap.size + 3 ≤ w'.heap.size ∧ Below w.heap.size w w'
theorem sr_below {w w1 w2 : World} {R C : Nat} {t : List (List Int)} {L : List (List (List Int))} {W : List (List Sw)} {a n : Nat} {q : Value} (h : SrSt w R C t L W a n q w1) (hb : Below w1.heap.size w1 w2) : SrSt w R C t L W a n q w2 :=
  ⟨ownQ_below h.1 hb, imgMap_below h.2.1 hb, blk_below h.2.2.1 hb, Nat.le_trans h.2.2.2.1 hb.size, h.2.2.2.2.trans (hb.mono h.2.2.2.2.size)⟩
/-- What the search answers. -/
def SrRes (R C : Nat) (m t : List (List Int)) (w : World) (e : Ending) (w' : World) : Prop :=
  e = .returned (.map (some (w.heap.size + 2))) ∧ ∃ L W a K, Bfs m L W a K ∧ t ∈ L ∧ ImgMap w' (w.heap.size + 2) (ksOf R C L W) ∧ Below w.heap.size w w' ∧ (t = m → a = L.length)
theorem Tryz.infoImg : (Tryz.prog.info? 70).map (fun i => (i.zero, i.size, i.bytes)) = some (some (.agg (vec 25 fun _ => 0)), 25, 200) := by kernel_rfl
def mapLen (w : World) (b : Nat) : Nat := match w.heap[b]? with | some (.map es _) => es.size | _ => 0
theorem mapLen_of {w : World} {b : Nat} {ks : List ((Nat → Int) × Sw)} (h : ImgMap w b ks) : mapLen w b = ks.length := by
  obtain ⟨es, c, hb, hk, -⟩ := h
  unfold mapLen
  rw [hb]
  have := congrArg List.length hk
  simpa using this
def lenV : Value → Nat
  | .slice _ n _ => n
  | _ => 0
theorem ownQ_lenV {w : World} {base e z n : Nat} {v : Value} {xs : List Value} (h : OwnQ w base e z v n xs) : lenV v = n := by
  obtain ⟨-, g, o, cap, cur, rfl, -⟩ := h; rfl
theorem wpList_tail {P : Program} {ops : Array Oper} {rest : List Oper} {o : Oper} {a : Act} {Q : Exit → Act → World → Prop} {W : World} {base E T n z : Nat} {v : Value} {xs : List Value} (h : OwnQ W base E z v (n + 1) xs)
    (d : Tmp) (_hd : o.dst = some d) (hgd : o.guard = none) (x : Operand) (ho : o.op = .slice T x (some (.const (.int .i64 1))) none none) (hx : a.eval x = v) (hu : P.underlying T = some (.slice E)) (hs : ∀ w, (sizeOf E).run P w = .ok z w)
    (hK : ∀ v', OwnQ W base E z v' n (xs.drop z) → wpList P ops Q rest (a.put o.dst v') W) : wpList P ops Q (o :: rest) a W := by
  refine wpList_plain hgd fun K hk => ?_
  obtain ⟨h0, g, q, cap, cur, rfl, hr⟩ := id h
  unfold Oper.wp
  rw [exec_tail ho rfl hx hr.2.2.1 hu hs]
  exact hk _ _ (hK _ (ownQ_tail h))
theorem wpList_loadQ {P : Program} {ops : Array Oper} {rest : List Oper} {o : Oper} {a : Act} {Q : Exit → Act → World → Prop} {W : World} {g k : Nat} {T : TypeId} {d : TypeDesc} {F : Nat → Int} (h : W.rangeAt g k (vecL 25 F))
    (t : Tmp) (_hd : o.dst = some t) (hgd : o.guard = none) (x : Operand) (ho : o.op = .load T x) (hx : a.eval x = .pointer (some ⟨g, k, none⟩)) (hu : P.underlying T = some d) (hr : d.isRow = true) (hi : (P.info? T).map (·.size) = some 25)
    (hK : wpList P ops Q rest (a.put o.dst (.agg (vec 25 F))) W) : wpList P ops Q (o :: rest) a W :=
  wpList_load_mid hgd T x ho g k hx (vecL 25 F) d h hu hr (by rw [hi, vecL_len]) hK
theorem exec_loadQ {P : Program} {ρ : Operand → Value} {o : Oper} {W : World} {g k : Nat} {T : TypeId} {d : TypeDesc} {F : Nat → Int} {x : Operand} (h : W.rangeAt g k (vecL 25 F)) (ho : o.op = .load T x) (hx : ρ x = .pointer (some ⟨g, k, none⟩)) (hu : P.underlying T = some d) (hr : d.isRow = true) (hi : (P.info? T).map (·.size) = some 25) :
    (execOp ρ o).run P W = .ok (.value (.agg (vec 25 F))) W := by
  unfold execOp
  simp only [ho, hx]
  rw [Sem.run_bind, run_loadAt_mid W g k T (vecL 25 F) d h hu hr (by rw [hi, vecL_len])]
  rfl
theorem sws_cell {w : World} {lo g n c : Nat} {l : List Sw} (h : OwnSws w lo (.slice (some ⟨g, 0, none⟩) n c) l) (k : Nat) (hk : k < l.length) : SwC w g (k * 4) (l.getD k zeroSw) := by
  have := ownSws_cells h k hk
  rwa [show l.getD k zeroSw = l[k] by simp [List.getD_eq_getElem?_getD, List.getElem?_eq_getElem hk]]
theorem exec_allocV {P : Program} {ρ : Operand → Value} {o : Oper} {w : World} {T : TypeId} (n : Nat) (ho : o.op = .alloc T) (hz : ∀ w, (zeroValue T).run P w = .ok (.agg (vec n fun _ => 0)) w) :
    (execOp ρ o).run P w = .ok (.value (.pointer (some ⟨w.heap.size, 0, none⟩))) (w.alloc (.cells (vec n fun _ => 0) T)) := by
  unfold execOp
  simp only [ho, Instr.alloc, Sem.run_bind, hz, Result.andThen_ok]
  rfl
theorem exec_storeV {P : Program} {W : World} {g n : Nat} {T T' : TypeId} {F0 : Nat → Int} (F : Nat → Int) (hb : Blk W g T n F0) (hi : (P.info? T').map (·.size) = some n) :
    ∃ w', (∀ (ρ : Operand → Value) (o : Oper) (x y : Operand), o.op = .store T' x y → ρ x = .pointer (some ⟨g, 0, none⟩) → ρ y = .agg (vec n F) → (execOp ρ o).run P W = .ok .skip w') ∧ Blk w' g T n F ∧ W.grownBy w' (some g) ∧ w'.heap.size = W.heap.size := by
  refine ⟨_, fun ρ o x y ho hx hy => ?_, setRow_heap W g _ (vec n F) T (0, 0) hb, ⟨rfl, rfl, rfl, by simp, fun k hk hr => setRow_other W g k _ (fun e => hr (by rw [e]))⟩, by simp⟩
  unfold execOp
  simp only [ho, hx, hy, Instr.storeAt, Instr.sureAddr, Sem.run_bind, Sem.run_pure, Result.andThen_ok, run_storeVar_row W g T T' (vec n F0) (vec n F) hb (by rw [hi, vec_size]) (by simp [vec_size]) (vec_one n F)]
/-- A new image, in a block from B on. -/
def newB (B : Nat) : FactP := fun u w2 => ∃ G, u = .pointer (some ⟨G, 0, none⟩) ∧ B ≤ G ∧ Blk w2 G 70 25 fun _ => 0
theorem stable_newB (B : Nat) : StableP (newB B) := fun _ _ _ hb h => ⟨h.choose, h.choose_spec.1, h.choose_spec.2.1, blk_below h.choose_spec.2.2 hb⟩
theorem range_below {w w' : World} {g k : Nat} {cs : List Value} (h : w.rangeAt g k cs) (hb : Below w.heap.size w w') (hg : g < w.heap.size) : w'.rangeAt g k cs := fun j v hj => below_cell hb hg (h j v hj)
theorem wpList_lookupYes {ops : Array Oper} {rest : List Oper} {o : Oper} {a : Act} {Q : Exit → Act → World → Prop} {W : World} {b : Nat} {ks : List ((Nat → Int) × Sw)} {F : Nat → Int} (h : ImgMap W b ks) (hw : ∀ p ∈ ks, WfI p.1) (hF : WfI F) (hex : ∃ p ∈ ks, vec 25 p.1 = vec 25 F)
    (d : Tmp) (_hd : o.dst = some d) (hgd : o.guard = none) (m x : Operand) (ho : o.op = .lookup 74 m x true) (hm : a.eval m = .map (some b)) (hx : a.eval x = .agg (vec 25 F))
    (hK : ∀ s : Sw, wpList Tryz.prog ops Q rest (a.put o.dst (.tuple #[swV s, .bool true])) W) : wpList Tryz.prog ops Q (o :: rest) a W :=
  wpList_lookupIM h hw hF d _hd hgd m x true ho hm hx fun s fd hc => by
    rcases hc with ⟨rfl, -⟩ | ⟨rfl, -, hn⟩
    · exact hK s
    · obtain ⟨p, hp, e⟩ := hex; exact absurd e (hn p hp)
theorem wpList_lookupNo {ops : Array Oper} {rest : List Oper} {o : Oper} {a : Act} {Q : Exit → Act → World → Prop} {W : World} {b : Nat} {ks : List ((Nat → Int) × Sw)} {F : Nat → Int} (h : ImgMap W b ks) (hw : ∀ p ∈ ks, WfI p.1) (hF : WfI F) (hne : ∀ p ∈ ks, vec 25 p.1 ≠ vec 25 F)
    (d : Tmp) (_hd : o.dst = some d) (hgd : o.guard = none) (m x : Operand) (ho : o.op = .lookup 74 m x true) (hm : a.eval m = .map (some b)) (hx : a.eval x = .agg (vec 25 F))
    (hK : wpList Tryz.prog ops Q rest (a.put o.dst (.tuple #[swV zeroSw, .bool false])) W) : wpList Tryz.prog ops Q (o :: rest) a W :=
  wpList_lookupIM h hw hF d _hd hgd m x true ho hm hx fun s fd hc => by
    rcases hc with ⟨rfl, p, hp, e, -⟩ | ⟨rfl, rfl, -⟩
    · exact absurd e (hne p hp)
    · exact hK
theorem zImg_cells : (Value.agg (vec 25 fun _ => 0)).cells.size = 25 := vec_size _ _
theorem start_facts (w : World) (F G : Nat → Int) : Blk (((w.alloc (.cells (vec 25 F) 70)).alloc (.cells (vec 25 G) 70)).alloc (.map #[] 0)) w.heap.size 70 25 F ∧
    Blk (((w.alloc (.cells (vec 25 F) 70)).alloc (.cells (vec 25 G) 70)).alloc (.map #[] 0)) (w.heap.size + 1) 70 25 G ∧
    ImgMap (((w.alloc (.cells (vec 25 F) 70)).alloc (.cells (vec 25 G) 70)).alloc (.map #[] 0)) (w.heap.size + 1 + 1) [] ∧
    Below w.heap.size w (((w.alloc (.cells (vec 25 F) 70)).alloc (.cells (vec 25 G) 70)).alloc (.map #[] 0)) ∧
    (((w.alloc (.cells (vec 25 F) 70)).alloc (.cells (vec 25 G) 70)).alloc (.map #[] 0)).heap.size = w.heap.size + 3 := by
  obtain ⟨w1, h1⟩ : ∃ w1, w1 = w.alloc (.cells (vec 25 F) 70) := ⟨_, rfl⟩
  have a1 : Below w.heap.size w w1 := by rw [h1]; exact (Below.refl _ _).alloc (Nat.le_refl _) _
  have b1 : Blk w1 w.heap.size 70 25 F := by rw [h1]; exact heap_alloc_new w _
  have s1 : w1.heap.size = w.heap.size + 1 := by rw [h1]; simp
  rw [← h1]
  clear h1
  obtain ⟨w2, h2⟩ : ∃ w2, w2 = w1.alloc (.cells (vec 25 G) 70) := ⟨_, rfl⟩
  have a2 : Below w1.heap.size w1 w2 := by rw [h2]; exact (Below.refl _ _).alloc (Nat.le_refl _) _
  have b2 : Blk w2 w1.heap.size 70 25 G := by rw [h2]; exact heap_alloc_new w1 _
  have s2 : w2.heap.size = w1.heap.size + 1 := by rw [h2]; simp
  rw [← h2]
  clear h2
  have a3 := (Below.refl w2.heap.size w2).alloc (Nat.le_refl _) (.map #[] 0)
  have m3 := imgMap_made w2
  rw [s1] at b2
  rw [s2, s1] at m3
  exact ⟨blk_below (blk_below b1 a2) a3, blk_below b2 a3, m3, a1.trans ((a2.mono a1.size).trans (a3.mono (Nat.le_trans a1.size a2.size))), by simp; omega⟩
set_option maxRecDepth 100000 in
set_option maxHeartbeats 4000000 in
theorem searched_any (R C : Nat) (m t : List (List Int)) (q0 : List Sw) (w : World) (hm : Node R C m) (ht : Node R C t) (hR : R ≤ 4) (hC : C ≤ 4) (hq : goM m q0 = some t) :
    Calls Tryz.prog 54 #[.agg (vec 25 (imgC R C m)), .agg (vec 25 (imgC R C t))] w (SrRes R C m t w) := by
  have HM := hide hm; have HT := hide ht; have HQ := hide hq
  have HWM := hide (imgC_wf hm)
  have HSIZE := hide (fun L W a K (h : Bfs m L W a K) => bfs_size hm hR hC h)
  have HALL := hide (fun L W K (h : Bfs m L W L.length K) => bfs_all h q0 hq)
  clear hm ht hR hC hq
  go_enter Tryz.func54, Tryz.ntmps54
  have hmm := @run_makeMap Tryz.prog
  obtain ⟨hp, ht, hmp, hb3, hs3⟩ := start_facts w (imgC R C m) (imgC R C t)
  obtain ⟨w4, hup, m4, g4, s4⟩ := run_updateIM hmp (fun p h => by cases h) HWM.out (fun p h => by cases h) zeroSw
  rw [show swV zeroSw = .agg #[.int .i64 0, .int .i64 0, .int .i64 0, .int .i64 0] from rfl] at hup
  have hp4 := blk_grown hp g4 (by intro e; have := Option.some.inj e; omega)
  have hz4 : w4.heap.size = w.heap.size + 3 := by omega
  have HG := hide (blk_grown ht g4 (by intro e; have := Option.some.inj e; omega)); have HM4 := hide m4
  have HB4 := hide (hb3.trans (grown_below g4 (fun k hk => by cases hk; omega) (Nat.le_trans hb3.size (Nat.le_refl _))))
  clear ht hb3 hs3 hmp g4 s4 m4
  go_wp2_with fail
  go_step3
  go_wp2_with (with_reducible refine wpList_loadVec hp 13 rfl rfl _ rfl rfl Tryz.underlying70 Tryz.sizeImg ?_)
  go_step3
  go_wp2_with (first | (with_reducible refine wpList_loadVec hp4 16 rfl rfl _ rfl rfl Tryz.underlying70 Tryz.sizeImg ?_) | (with_reducible refine wpList_buildOneA (vec 25 (imgC R C m)) (.agg (vec 25 fun _ => 0)) 17 rfl rfl (.tmp 16) rfl rfl Tryz.underlying118 Tryz.infoImg (by decide) (by decide) (vec_size _ _) ?_))
  have al := (Below.refl w4.heap.size w4).alloc (Nat.le_refl _) (.cells (vec 25 (imgC R C m)) 70)
  have HSR : Hid (SrSt w R C t [m] [[]] 0 1 (.slice (some ⟨w.heap.size + 3, 0, none⟩) 1 1) (w4.alloc (.cells (vec 25 (imgC R C m)) 70))) := hide ⟨by
      rw [List.drop_zero, queL_cons, queL_nil, List.append_nil]
      refine ⟨by rw [vecL_len], w.heap.size + 3, 0, 1, vec 25 (imgC R C m), rfl, Nat.le_refl _, by rw [← hz4]; exact heap_alloc_new w4 _, Nat.le_refl _, by decide, by rw [vec_size]; decide, fun j hj => ?_⟩
      rw [Nat.zero_add]; simp [vec], imgMap_below HM4.out al, blk_below HG.out al, by simp; omega, HB4.out.trans (al.mono HB4.out.size)⟩
  have HBF := hide (bfs_start m)
  clear al hp hp4 hup hmm HG HM4 HB4 hz4
  go_loopg [6] 65536 (fun g q w' => ∃ L W a, a + g = 65536 ∧ Bfs m L W a 0 ∧ SrSt w R C t L W a (L.length - a) q w')
  case atStart => exact ⟨[m], [[]], 0, rfl, HBF.out, HSR.out⟩
  case round =>
    clear HSR HBF
    obtain ⟨L, W, a, hag, hbf, hsr⟩ := hrel
    have HBF := hide hbf; have HSR := hide hsr
    have hL := HSIZE.out L W a 0 hbf
    obtain ⟨gq, oq, cq, rfl, hq1, hq2, hq3, -⟩ := ownQ_slice hsr.1
    have ha := hbf.le
    by_cases hlt : a < L.length
    · obtain ⟨g, rfl⟩ : ∃ g, gk = g + 1 := ⟨gk - 1, by omega⟩
      obtain ⟨n, hn⟩ : ∃ n, L.length - a = n + 1 := ⟨L.length - a - 1, by omega⟩
      have HN := hide hn
      rw [hn] at hsr ⊢
      have hq := hsr.1
      rw [queL_head hlt] at hq
      obtain ⟨gq', oq', cq', e, hq4, -, -, hra⟩ := ownQ_head hq
      cases e
      have hx := bfs_node HM.out hbf hlt
      obtain ⟨x, hxx⟩ : ∃ x, x = L.getD a [] := ⟨_, rfl⟩
      have HXX := hide hxx
      rw [← hxx] at hra hx
      have HX := hide hx
      have hnI : (0 : Int) < (n : Int) + 1 := by omega
      clear hbf hsr hq hxx hx hn
      go_wp2_with (first | (with_reducible refine wpList_loadQ hra 25 rfl rfl (.tmp 24) rfl rfl Tryz.underlying70 rfl Tryz.sizeImg ?_) | ((with_reducible refine (imgC_switches _ HX.out).mono ?_); rintro e w6 ⟨sv, rfl, hsv, hb6⟩; obtain ⟨asl, cs, rfl⟩ := ownA_slice hsv))
      have HSV := hide hsv; have HSR6 := hide (sr_below HSR.out hb6)
      have hlo : w.heap.size + 3 ≤ wr.heap.size := HSR.out.2.2.2.1
      obtain ⟨lo, hlo2⟩ : ∃ lo, lo = wr.heap.size := ⟨_, rfl⟩
      rw [← hlo2] at HSV hlo
      rw [HN.out] at HSR6
      have HEND := hide (befS_end HX.out)
      obtain ⟨S, hS⟩ : ∃ S, S = swsM x := ⟨_, rfl⟩
      have HS := hide hS
      rw [← hS] at HSV HEND ⊢
      obtain ⟨N, hNS⟩ : ∃ N, N = S.length := ⟨_, rfl⟩
      have HNS := hide hNS
      have hSL : N ≤ 625 := by rw [hNS, hS]; exact upS_len x 625
      rw [← hNS] at HEND ⊢
      clear hsv hb6 hlo2 HSR hra hq1 hq2 hq3 hq4 hS hNS
      go_loopg [6, 28] N (fun g q i w' => ∃ L W k, k + g = N ∧ i = .int .i64 k ∧ Bfs m L W a (befS S k) ∧ a < L.length ∧ x = L.getD a [] ∧ SrSt w R C t L W a (L.length - a) q w' ∧ OwnSws w' lo (.slice asl N cs) S)
      case atStart => exact ⟨L, W, 0, Nat.zero_add _, rfl, HBF.out, hlt, HXX.out, by rw [HN.out]; exact HSR6.out, by rw [HNS.out]; exact HSV.out⟩
      case round =>
        clear HSR6 HSV HBF HXX hlt HN hnI
        obtain ⟨L1, W1, k, hkg, rfl, hbf, hlt, hxx, hsr, hsv⟩ := hrel
        have HBF := hide hbf; have HXX := hide hxx; have HLT := hide hlt
        have hL1 := HSIZE.out L1 W1 a _ hbf
        obtain ⟨gq, oq, cq, rfl, hq1, hq2, hq3, -⟩ := ownQ_slice hsr.1
        cases gk with
        | zero =>
          obtain rfl : k = N := by omega
          have HNX := hide (bfs_next hbf hlt HEND.out.1 (by rw [← hxx]; exact HEND.out.2))
          obtain ⟨n1, hn1⟩ : ∃ n1, L1.length - a = n1 + 1 := ⟨L1.length - a - 1, by omega⟩
          have HTL := hide (queL_tail R C L1 hlt)
          have HR := hide hsr.2
          have hq := hsr.1
          have HN1 : Hid (L1.length - (a + 1) = n1) := hide (by omega)
          rw [hn1] at hq ⊢
          clear hbf hxx hsr hsv hn1
          go_wp2_with ((with_reducible refine wpList_tail hq 22 rfl rfl (.tmp 21) rfl rfl Tryz.underlying118 (fun w => rfl) ?_); intro v' hv')
          have HV := hide hv'
          clear hv' hq
          go_roundg g
          case measure => exact Nat.lt_succ_self g
          case rel => exact ⟨L1, W1, a + 1, by omega, HNX.out, by rw [HN1.out, ← HTL.out]; exact HV.out, HR.out⟩
        | succ g2 =>
          have hk : k < N := by omega
          have hkI : (k : Int) < N := by omega
          have hkS : k < S.length := by rw [← HNS.out]; exact hk
          obtain ⟨gs, cs2, e, -⟩ := ownA_some hsv (by rw [← HNS.out]; omega)
          cases e
          have hsc := sws_cell hsv k hkS
          have HSV := hide hsv; have HSR := hide hsr
          have HLE := hide (befS_le (x := x) (k := k) (by rw [← HS.out]; exact hkS))
          have HALLS := hide (befS_all HX.out (k := k) (by rw [← HS.out]; exact hkS))
          have HSB := hide (sws_at HX.out (k := k) (by rw [← HS.out]; exact hkS))
          have HNEXT : Hid (befS S (k + 1) = numS (S.getD k zeroSw)) := hide rfl
          rw [← HS.out] at HLE HALLS HSB
          obtain ⟨s, hs⟩ : ∃ s, s = S.getD k zeroSw := ⟨_, rfl⟩
          rw [← hs] at hsc HLE HALLS HSB HNEXT
          obtain ⟨n1, hn1⟩ : ∃ n1, L1.length - a = n1 + 1 := ⟨L1.length - a - 1, by omega⟩
          have HN1 := hide hn1
          have HNQ : Hid (n1 + 1 < 4000000) := hide (by omega)
          rw [hn1] at HSR ⊢
          clear hsv hsr hbf hxx hs hkS hn1 hq1 hq2 hq3
          go_wp2_with (first | (with_reducible refine wpList_loadSwC hsc 31 rfl rfl _ rfl rfl ?_) | ((with_reducible refine wpList_allocSw 8 rfl rfl rfl ?_); intro w7 h7 b7 s7) | ((refine wpList_storeSw h7 s rfl (.tmp 8) (.tmp 31) rfl rfl rfl ?_); intro w8 h8 g8 s8))
          have b8 := b7.trans (grown_below g8 (fun k hk => by cases hk; exact Nat.le_refl _) b7.size)
          have E1 := hide (sr_below HSR.out b8); have E2 := hide (ownSws_below HSV.out b8); have E3 := hide h8
          have hgs : w.heap.size + 3 ≤ wr.heap.size := HSR.out.2.2.2.1
          have hz8 : wr.heap.size + 1 ≤ w8.heap.size := by omega
          obtain ⟨gw, hgw⟩ : ∃ gw, gw = wr.heap.size := ⟨_, rfl⟩
          rw [← hgw] at E3 hgs hz8 ⊢
          have hq := E1.out.1
          rw [queL_head HLT.out, ← HXX.out] at hq
          obtain ⟨gq', oq', cq', e, -, -, hgq, hra⟩ := ownQ_head hq
          cases e
          have HRA := hide hra; have HGQ := hide hgq
          have hn1I : (0 : Int) < (n1 : Int) + 1 := by omega
          clear h7 b7 s7 h8 g8 s8 b8 hsc HSR HSV hgw hq hra hgq
          obtain ⟨fs, hfs⟩ : ∃ fs : List FactP, fs = [isV (.slice (some ⟨gq, oq, none⟩) (n1 + 1) cq), isV (.pointer (some ⟨gq, oq, none⟩)), isV (.agg (vec 25 (imgC R C x))), isV (swV s), isV (.agg (vec 25 (imgC R C (flipM x s)))), newB w8.heap.size] := ⟨_, rfl⟩
          have hst : ∀ f ∈ fs, StableP f := by
            rw [hfs]; intro f hf
            simp only [List.mem_cons, List.not_mem_nil, or_false] at hf
            rcases hf with rfl | rfl | rfl | rfl | rfl | rfl <;> first | exact stable_v _ | exact stable_newB _
          subst hfs
          refine wp_region_tail (S := fun w2 => Below w8.heap.size w8 w2) [isV (.slice (some ⟨gq, oq, none⟩) (n1 + 1) cq), isV (.pointer (some ⟨gq, oq, none⟩)), isV (.agg (vec 25 (imgC R C x))), isV (swV s), isV (.agg (vec 25 (imgC R C (flipM x s)))), newB w8.heap.size] [(6, .slice (some ⟨gq, oq, none⟩) (n1 + 1) cq), (8, .pointer (some ⟨gw, 0, none⟩))] _ _ 6 (by kernel_rfl) rfl rfl (by kernel_rfl) (by kernel_rfl) rfl (by kernel_rfl) ?base (below_drew (Below.refl _ _)) ?ob rfl ?fin
          case base =>
            intro t v ht
            simp only [List.lookup_cons, List.lookup_nil] at ht
            repeat' split at ht
            all_goals first | (cases ht; done) | (obtain rfl := Option.some.inj ht; rename_i hh; obtain rfl := eq_of_beq hh; rfl)
          case ob =>
            exact ⟨obt_move (.slice (some ⟨gq, oq, none⟩) (n1 + 1) cq) rfl rfl rfl (srt_b 6 rfl),
              obt_two (.pointer (some ⟨gq, oq, none⟩)) rfl rfl (srt_j 0 rfl (by kernel_rfl) rfl) (srt_c (v := .int .i64 0)) (fun ρ w2 hS hx hy => by go_simp),
              obt_one (.agg (vec 25 (imgC R C x))) rfl rfl (srt_j 1 rfl (by kernel_rfl) rfl) (fun ρ w2 hS hx => exec_loadQ (range_below HRA.out hS HGQ.out) rfl hx Tryz.underlying70 rfl Tryz.sizeImg),
              obt_one (swV s) rfl rfl (srt_b 8 rfl) (fun ρ w2 hS hx => exec_loadSw rfl hx (swAt_below E3.out hS)),
              obt_call hst [.agg (vec 25 (imgC R C x)), swV s] rfl Tryz.func102 (by kernel_rfl) (by kernel_rfl) rfl ⟨(srt_j 2 rfl (by kernel_rfl) rfl), (srt_j 3 rfl (by kernel_rfl) rfl), trivial⟩ (fun w2 hS => (imgC_flip w2 HX.out HSB.out).mono fun e w3 hh => ⟨_, hh.1, hS.trans (hh.2.mono hS.size), hh.2, rfl⟩),
              obt_make hst rfl (fun a w2 hS hs => ⟨_, _, exec_allocV 25 rfl Tryz.zeroImg, hS.trans (((Below.refl _ _).alloc (Nat.le_refl _) _).mono hS.size), (Below.refl _ _).alloc (Nat.le_refl _) _, w2.heap.size, rfl, hS.size, heap_alloc_new w2 _⟩),
              trivial⟩
          case fin =>
            intro a' w' h1 h2 h3 hS h4 K hK
            have ha := frame_ov rfl h1 h2 h3 [(32, .slice (some ⟨gq, oq, none⟩) (n1 + 1) cq), (33, .pointer (some ⟨gq, oq, none⟩)), (34, .agg (vec 25 (imgC R C x))), (35, swV s), (36, .agg (vec 25 (imgC R C (flipM x s)))), (9, a'.tmps.getD 9 undef)] (by kernel_rfl) ⟨h4 0 32 rfl (by decide), h4 1 33 rfl (by decide), h4 2 34 rfl (by decide), h4 3 35 rfl (by decide), h4 4 36 rfl (by decide), rfl, trivial⟩
            dsimp only [ov, List.lookup, Nat.reduceBEq, Nat.reduceAdd] at ha
            have v36 : a'.tmps.getD 36 undef = .agg (vec 25 (imgC R C (flipM x s))) := h4 4 36 rfl (by decide)
            obtain ⟨gn, hv9, hgn, hbn⟩ := h4 5 9 rfl (by decide)
            have HV9 := hide hv9
            obtain ⟨w9, hrun, E4, g9, s9⟩ := exec_storeV (P := Tryz.prog) (T' := 70) (imgC R C (flipM x s)) hbn Tryz.sizeImg
            refine run_skip (hrun a'.eval _ (.tmp 9) (.tmp 36) rfl hv9 v36) (hK undef _ ?_)
            show Exit.then _ _ Exit.normal a' _
            have b9 := hS.trans (grown_below g9 (fun k hk => by cases hk; exact hgn) hS.size)
            have F1 := hide (sr_below E1.out b9); have F2 := hide (ownSws_below E2.out b9); have F3 := hide (swAt_below E3.out b9); have F4 := hide E4; have F5 : Hid (w.heap.size + 3 ≤ gn) := hide (by omega)
            clear hbn hgn E4 g9 s9 b9 hrun v36 hv9
            rw [ha]
            rw [HV9.out]
            clear ha h1 h2 h3 h4 hst hK
            clear HV9 E1 E2 E3 HRA HGQ hS hz8
            have HNY := hide (node_flip HX.out s)
            have HWY := hide (imgC_wf HNY.out)
            have HWF := hide (ksOf_wf HM.out HBF.out)
            have HIN := hide (ksOf_in HM.out HBF.out HNY.out)
            have F6 : Hid (ImgMap w9 (w.heap.size + 1 + 1) (ksOf R C L1 W1)) := hide F1.out.2.1
            by_cases hy : flipM x s ∈ L1
            · have HEX := hide (HIN.out.2 hy)
              have HKN := hide (bfs_known HM.out HBF.out HLT.out (by rw [← HXX.out]; exact HSB.out) HLE.out (by rw [← HXX.out]; exact HALLS.out) (by rw [← HXX.out]; exact hy))
              clear hy
              go_wp2_with (first | (with_reducible refine wpList_loadVec F4.out 39 rfl rfl _ rfl rfl Tryz.underlying70 Tryz.sizeImg ?_) | ((with_reducible refine wpList_lookupYes F6.out HWF.out HWY.out HEX.out 40 rfl rfl (.tmp 38) (.tmp 39) rfl rfl rfl ?_); intro s9) | ((with_reducible refine wpList_allocSw 10 rfl rfl rfl ?_); intro wa ha ba sa) | ((refine wpList_storeSw ha s9 rfl (.tmp 10) (.tmp 41) rfl rfl rfl ?_); intro wb hb gb sb))
              have bb := ba.trans (grown_below gb (fun k hk => by cases hk; exact Nat.le_refl _) ba.size)
              have G1 := hide (sr_below F1.out bb); have G2 := hide (ownSws_below F2.out bb)
              clear ha ba sa hb gb sb bb
              go_roundg g2
              case measure => exact Nat.lt_succ_self g2
              case rel => exact ⟨L1, W1, k + 1, by omega, by go_num, by rw [HNEXT.out]; exact HKN.out, HLT.out, HXX.out, by rw [HN1.out]; exact G1.out, G2.out⟩
            · have HNE := hide (fun p hp e => hy (HIN.out.1 ⟨p, hp, e⟩))
              have HNW := hide (bfs_new HM.out HBF.out HLT.out (by rw [← HXX.out]; exact HSB.out) HLE.out (by rw [← HXX.out]; exact HALLS.out) (by rw [← HXX.out]; exact hy))
              rw [← HXX.out] at HNW
              have HKS := hide (ksOf_snoc (R := R) (C := C) HBF.out.len (flipM x s) (W1.getD a [] ++ [s]))
              rw [lastS_snoc] at HKS
              have HGN : Hid (gn ≠ w.heap.size + 1 + 1) := hide (by have := F5.out; omega)
              have HEQ := fun (b : Bool) (hb : b = true ↔ flipM x s = t) => run_eqImg HWY.out (imgC_wf HT.out) b (hb.trans ⟨fun e => by rw [e], fun e => imgC_inj HNY.out HT.out e⟩)
              obtain ⟨y, hyy⟩ : ∃ y, y = flipM x s := ⟨_, rfl⟩
              rw [← hyy] at F4 HWY HNE HNW HKS HEQ ⊢
              have HY := hide hyy
              have HNM := hide (show y ∉ L1 from by rw [hyy]; exact hy)
              clear hy hyy HIN
              have WALKTO : True := trivial
              by_cases hyt : y = t
              · have heq := HEQ true ⟨fun _ => hyt, fun _ => rfl⟩
                have HYT := hide hyt
                clear hyt HEQ
                go_wp2_with (first | (with_reducible refine wpList_loadVec F4.out 39 rfl rfl _ rfl rfl Tryz.underlying70 Tryz.sizeImg ?_) | ((with_reducible refine wpList_lookupNo F6.out HWF.out HWY.out HNE.out 40 rfl rfl (.tmp 38) (.tmp 39) rfl rfl rfl ?_)) | ((with_reducible refine wpList_allocSw 10 rfl rfl rfl ?_); intro wa ha ba sa) | ((refine wpList_storeSw ha zeroSw rfl (.tmp 10) (.tmp 41) rfl rfl rfl ?_); intro wb hb gb sb; have bb := ba.trans (grown_below gb (fun k hk => by cases hk; exact Nat.le_refl _) ba.size); have G1 := hide (sr_below F1.out bb); have G3 := hide (swAt_below F3.out bb); have G4 := hide (blk_below F4.out bb); have G6 := hide (imgMap_below F6.out bb); have G2 := hide (ownSws_below F2.out bb); clear ha ba sa hb gb sb bb) | (with_reducible refine wpList_loadVec G4.out 45 rfl rfl _ rfl rfl Tryz.underlying70 Tryz.sizeImg ?_) | (with_reducible refine wpList_loadSw G3.out 46 rfl rfl _ rfl rfl ?_) | ((with_reducible refine wpList_updateIM G6.out HWF.out HWY.out HNE.out s rfl (.tmp 44) (.tmp 45) (.tmp 46) (.inl rfl) rfl rfl rfl ?_); intro w12 m12 g12 s12; have K4 := hide (blk_grown G4.out g12 (by intro e; exact HGN.out (Option.some.inj e).symm)); have K2 := hide (blk_grown G1.out.2.2.1 g12 (by intro e; have := Option.some.inj e; omega)); have K6 := hide m12; have KB := hide (G1.out.2.2.2.2.trans (grown_below g12 (fun k hk => by have := Option.some.inj hk; omega) G1.out.2.2.2.2.size)); clear m12 g12 s12) | (with_reducible refine wpList_loadVec K4.out 47 rfl rfl _ rfl rfl Tryz.underlying70 Tryz.sizeImg ?_) | (with_reducible refine wpList_loadVec K2.out 48 rfl rfl _ rfl rfl Tryz.underlying70 Tryz.sizeImg ?_))
                rw [Exit.noGoto_ret]
                go_ret
                exact ⟨rfl, L1 ++ [y], W1 ++ [W1.getD a [] ++ [s]], a, numS s, HNW.out, by rw [HYT.out]; simp, by rw [HKS.out]; exact K6.out, KB.out, fun e => absurd (show t ∈ L1 by rw [e]; exact bfs_head HBF.out) (fun h => HNM.out (by rw [HYT.out]; exact h))⟩
              · have heq := HEQ false ⟨fun h => (by cases h), fun h => absurd h hyt⟩
                clear hyt HEQ
                go_wp2_with (first | (with_reducible refine wpList_loadVec F4.out 39 rfl rfl _ rfl rfl Tryz.underlying70 Tryz.sizeImg ?_) | ((with_reducible refine wpList_lookupNo F6.out HWF.out HWY.out HNE.out 40 rfl rfl (.tmp 38) (.tmp 39) rfl rfl rfl ?_)) | ((with_reducible refine wpList_allocSw 10 rfl rfl rfl ?_); intro wa ha ba sa) | ((refine wpList_storeSw ha zeroSw rfl (.tmp 10) (.tmp 41) rfl rfl rfl ?_); intro wb hb gb sb; have bb := ba.trans (grown_below gb (fun k hk => by cases hk; exact Nat.le_refl _) ba.size); have G1 := hide (sr_below F1.out bb); have G3 := hide (swAt_below F3.out bb); have G4 := hide (blk_below F4.out bb); have G6 := hide (imgMap_below F6.out bb); have G2 := hide (ownSws_below F2.out bb); clear ha ba sa hb gb sb bb) | (with_reducible refine wpList_loadVec G4.out 45 rfl rfl _ rfl rfl Tryz.underlying70 Tryz.sizeImg ?_) | (with_reducible refine wpList_loadSw G3.out 46 rfl rfl _ rfl rfl ?_) | ((with_reducible refine wpList_updateIM G6.out HWF.out HWY.out HNE.out s rfl (.tmp 44) (.tmp 45) (.tmp 46) (.inl rfl) rfl rfl rfl ?_); intro w12 m12 g12 s12; have K4 := hide (blk_grown G4.out g12 (by intro e; exact HGN.out (Option.some.inj e).symm)); have K2 := hide (blk_grown G1.out.2.2.1 g12 (by intro e; have := Option.some.inj e; omega)); have K6 := hide m12; have KB := hide (G1.out.2.2.2.2.trans (grown_below g12 (fun k hk => by have := Option.some.inj hk; omega) G1.out.2.2.2.2.size)); have KQ := hide (ownQ_grown G1.out.1 g12 (fun k hk e => by have h1 := (ownQ_lt G1.out.1 k hk).1; have h2 := Option.some.inj e; omega)); have KS := hide (show OwnSws w12 lo _ S from G2.out.kept g12 (.inr (own_not_map G2.out G6.out))); have KZ := hide (show w.heap.size + 3 ≤ w12.heap.size by have := G1.out.2.2.2.1; omega); clear m12 g12 s12) | (with_reducible refine wpList_loadVec K4.out 47 rfl rfl _ rfl rfl Tryz.underlying70 Tryz.sizeImg ?_) | (with_reducible refine wpList_loadVec K2.out 48 rfl rfl _ rfl rfl Tryz.underlying70 Tryz.sizeImg ?_) | (with_reducible refine wpList_loadVec K4.out 51 rfl rfl _ rfl rfl Tryz.underlying70 Tryz.sizeImg ?_) | (with_reducible refine wpList_buildOneA (vec 25 (imgC R C y)) (.agg (vec 25 fun _ => 0)) 52 rfl rfl (.tmp 51) rfl rfl Tryz.underlying118 Tryz.infoImg (by decide) (by decide) (vec_size _ _) ?_) | ((with_reducible refine wpList_pushQ KQ.out (vec 25 (imgC R C y)) (.agg (vec 25 fun _ => 0)) rfl (.tmp 50) (.tmp 52) rfl Tryz.underlying118 Tryz.infoImg zImg_cells (by decide) (by decide) rfl rfl (vec_size _ _) (vec_one _ _) HNQ.out KZ.out ?_); intro v14 w14 q14 b14 g14))
                have M1 := hide (imgMap_heap K6.out (b14.block (w.heap.size + 1 + 1) (by omega)))
                have M2 : Hid (Blk w14 (w.heap.size + 1) 70 25 (imgC R C t)) := hide (by have := K2.out; unfold Blk at this ⊢; rw [b14.block (w.heap.size + 1) (by omega)]; exact this)
                have M3 := hide (KB.out.trans (b14.mono (by omega)))
                have M4 := hide (show OwnSws w14 lo _ S from KS.out.kept g14 (.inr fun e => ownQ_not_row KQ.out KS.out (by decide) gq rfl e))
                have M5 := hide q14
                have M6 : Hid (w.heap.size + 3 ≤ w14.heap.size) := hide (Nat.le_trans KZ.out b14.size)
                clear q14 b14 g14
                go_roundg g2
                case measure => exact Nat.lt_succ_self g2
                case rel =>
                  have hlt := HLT.out
                  have hn1 := HN1.out
                  refine ⟨L1 ++ [y], W1 ++ [W1.getD a [] ++ [s]], k + 1, by omega, by go_num, by rw [HNEXT.out]; exact HNW.out, by simp; omega, by rw [getD_snoc_lt _ _ _ hlt]; exact HXX.out, ⟨?_, by rw [HKS.out]; exact M1.out, M2.out, M6.out, M3.out⟩, M4.out⟩
                  rw [show (L1 ++ [y]).length - a = n1 + 1 + 1 by simp; omega, List.drop_append_of_le_length (by omega), queL_snoc]
                  exact M5.out
    · obtain rfl : a = L.length := by omega
      have HIM := hide hsr.2.1; have HBW := hide hsr.2.2.2.2
      have HZ : L.length - L.length = 0 := Nat.sub_self _
      rw [HZ]
      clear hsr hbf hq1 hq2 hq3 HZ HSR
      go_wp2
      try rw [Exit.noGoto_ret]
      go_ret
      exact ⟨rfl, L, W, L.length, 0, HBF.out, HALL.out L W 0 HBF.out, HIM.out, HBW.out, fun _ => rfl⟩
end Go.Proofs.YtpfaaglaeholbaaGreat
/-
  pathTo of the program: from an image back to the first one, along the last switches.
-/
namespace Go.Proofs.YtpfaaglaeholbaaGreat
open Go.RowKit
set_option maxRecDepth 100000

theorem Tryz.cellsSw : Tryz.prog.cellsOf 111 = 4 := by kernel_rfl
theorem Tryz.keyTySw : Tryz.prog.keyType 111 = true := by kernel_rfl
def Sw.wf (s : Sw) : Prop := (Lit.int .i64 s.y1).wf = true ∧ (Lit.int .i64 s.y2).wf = true ∧ (Lit.int .i64 s.x1).wf = true ∧ (Lit.int .i64 s.x2).wf = true
theorem intLitsM_mk (d : Nat) (x : Int) (h : (Lit.int .i64 x).wf = true) : Tryz.prog.keyLits (d + 1) 3 [.int .i64 x] = some [.int .i64 x] := by
  unfold Program.keyLits
  rw [Tryz.underlying3]
  simp only
  rw [if_pos ⟨trivial, h⟩]
theorem swLits_mk (d : Nat) (s : Sw) (h : s.wf) : Tryz.prog.keyLits (d + 2) 111 (swA s).toList = some [.int .i64 s.y1, .int .i64 s.y2, .int .i64 s.x1, .int .i64 s.x2] := by
  obtain ⟨h1, h2, h3, h4⟩ := h
  unfold Program.keyLits
  rw [Tryz.underlying111]
  simp only [swA]
  refine (if_pos ⟨by rw [Tryz.cellsSw]; rfl, by decide +kernel⟩).trans ?_
  simp only [Tryz.cellsI, List.mapM_cons, List.mapM_nil, List.drop_zero, List.take_succ_cons, List.take_zero, List.drop_succ_cons, bind, Option.bind, pure, Option.map, intLitsM_mk d _ h1, intLitsM_mk d _ h2, intLitsM_mk d _ h3, intLitsM_mk d _ h4]
  rfl
theorem run_neqSw {s u : Sw} (hs : s.wf) (hu : u.wf) (b : Bool) (hb : b = true ↔ s ≠ u) (w : World) : (binOp .neq 111 (swV s) (swV u)).run Tryz.prog w = .ok (.bool b) w := by
  have hm : Tryz.prog.types.size + 1 ≤ 10000 := of_decide_eq_true (by kernel_rfl)
  have hf : ∀ s : Sw, (swV s).formed Tryz.prog 111 = true := fun s => by simp [swV, swA, Value.formed, Tryz.underlying111, Tryz.cellsSw]
  obtain ⟨r, hr, hiff⟩ := run_equalIn_deep (10000 - (Tryz.prog.types.size + 1)) (Tryz.prog.types.size + 1) 111 Tryz.keyTySw w 2 2 (swV s) (swV u) _ _ (hf s) (hf u) (swLits_mk 0 s hs) (swLits_mk 0 u hu)
  rw [show 10000 - (Tryz.prog.types.size + 1) + (Tryz.prog.types.size + 1) = 10000 by omega] at hr
  have he : b = !r := by
    rw [Bool.eq_iff_iff, hb]
    have : r = true ↔ s = u := hiff.trans ⟨fun e => by obtain ⟨a1, a2, a3, a4⟩ := s; obtain ⟨b1, b2, b3, b4⟩ := u; simpa using e, fun e => by rw [e]⟩
    cases r <;> simp_all
  rw [he]
  unfold swV at hr ⊢
  simp only [binOp]
  simp [Op.equal, Op.maxDepth, hr]
theorem small_wf : ∀ n : Nat, n < 625 → (Lit.int .i64 (n : Int)).wf = true := by decide +kernel
theorem dec_wf {i : Nat} (h : i < 625) : (decS i).wf := by
  unfold decS Sw.wf
  exact ⟨small_wf _ (by omega), small_wf _ (by omega), small_wf _ (by omega), small_wf _ (by omega)⟩
theorem zero_wf : zeroSw.wf := ⟨rfl, rfl, rfl, rfl⟩
theorem swB_wf {R C : Nat} {x : List (List Int)} (hx : Node R C x) {s : Sw} (h : swB x s = true) : s.wf ∧ s ≠ zeroSw := by
  obtain ⟨i, hi, rfl⟩ := swB_num hx h
  refine ⟨dec_wf hi, fun e => ?_⟩
  rw [e] at h
  obtain ⟨f, rfl, hI⟩ := hx
  rw [swB_mk hI] at h
  obtain ⟨a, b, c, d, e1, h1⟩ := swF_iff.1 h
  obtain ⟨h2, -⟩ := four_iff.1 h1
  unfold zeroSw at e1
  simp only [Sw.mk.injEq] at e1
  omega
theorem tree_len {m : List (List Int)} {L : List (List (List Int))} {W : List (List Sw)} {a K : Nat} (h : Bfs m L W a K) : ∀ n i, i ≤ n → i < L.length → (W.getD i []).length ≤ i := by
  intro n
  induction n with
  | zero =>
    intro i hi hl
    rcases h.tree i hl with ⟨e, -⟩ | ⟨j, s, hj, -⟩
    · rw [e]; exact Nat.zero_le _
    · omega
  | succ n ih =>
    intro i hi hl
    rcases h.tree i hl with ⟨e, -⟩ | ⟨j, s, hj, e, -⟩
    · rw [e]; exact Nat.zero_le _
    · have := ih j (by omega) (by omega)
      rw [e, List.length_append, List.length_singleton]; omega
/-- The way of an image, and the one before it. -/
theorem tree_back {R C : Nat} {m : List (List Int)} {L : List (List (List Int))} {W : List (List Sw)} {a K : Nat} (hm : Node R C m) (h : Bfs m L W a K) {i : Nat} (hi : i < L.length) {n : Nat} (hn : (W.getD i []).length = n + 1) :
    ∃ j s, j < L.length ∧ W.getD i [] = W.getD j [] ++ [s] ∧ (W.getD j []).length = n ∧ swB (L.getD i []) s = true ∧ flipM (L.getD i []) s = L.getD j [] := by
  rcases h.tree i hi with ⟨e, -⟩ | ⟨j, s, hj, e1, e2, e3⟩
  · rw [e] at hn; simp at hn
  · have hj' : j < L.length := by omega
    have hN := bfs_node hm h hj'
    refine ⟨j, s, hj', e1, ?_, ?_, ?_⟩
    · rw [e1, List.length_append, List.length_singleton] at hn; omega
    · rw [e3]; exact swB_back hN e2
    · rw [e3]; exact flip_back hN s
theorem wpList_lookupAt {R C : Nat} {m : List (List Int)} {L : List (List (List Int))} {V : List (List Sw)} {k K i : Nat} {ops : Array Oper} {rest : List Oper} {o : Oper} {a : Act} {Q : Exit → Act → World → Prop} {W : World} {b : Nat} (hm : Node R C m) (hb : Bfs m L V k K) (h : ImgMap W b (ksOf R C L V)) (hi : i < L.length)
    (d : Tmp) (_hd : o.dst = some d) (hgd : o.guard = none) (y x : Operand) (ho : o.op = .lookup 74 y x false) (hy : a.eval y = .map (some b)) (hx : a.eval x = .agg (vec 25 (imgC R C (L.getD i []))))
    (hK : wpList Tryz.prog ops Q rest (a.put o.dst (swV (lastS (V.getD i [])))) W) : wpList Tryz.prog ops Q (o :: rest) a W :=
  wpList_lookupIM h (ksOf_wf hm hb) (imgC_wf (bfs_node hm hb hi)) d _hd hgd y x false ho hy hx fun s fd hc => by
    rcases hc with ⟨-, p, hp, e, rfl⟩ | ⟨-, -, hn⟩
    · obtain ⟨j, hj, rfl⟩ := ksOf_mem hp
      obtain rfl : j = i := bfs_inj hm hb hj hi (imgC_inj (bfs_node hm hb hj) (bfs_node hm hb hi) e)
      exact hK
    · exact absurd rfl (hn _ (ksOf_at hi))
end Go.Proofs.YtpfaaglaeholbaaGreat
/-
  pathTo of the program, walked.
-/
namespace Go.Proofs.YtpfaaglaeholbaaGreat
open Go.RowKit
set_option maxRecDepth 100000

/-- slices.Reverse at switches: what it leaves. -/
@[reducible] def RevAt : Prop := ∀ (v : Value) (l : List Sw) (lo : Nat) (w : World), OwnSws w lo v l → l.length ≤ 65536 →
  Calls Tryz.prog 103 #[v] w fun e w' => e = .returned (.tuple #[]) ∧ OwnSws w' lo v l.reverse ∧ w.grownBy w' v.ownBlock
theorem eqGuard_sw (s u : Sw) (x y : Operand) (w : World) : (eqGuard .neq 111 x y (swV s) (swV u)).run Tryz.prog w = .ok () w := by
  simp [eqGuard, swV, Result.andThen]
theorem wpList_lookupX {R C : Nat} {m : List (List Int)} {L : List (List (List Int))} {V : List (List Sw)} {k K i : Nat} {ops : Array Oper} {rest : List Oper} {o : Oper} {a : Act} {Q : Exit → Act → World → Prop} {W : World} {b : Nat} {z : List (List Int)} {s : Sw} (hm : Node R C m) (hb : Bfs m L V k K) (h : ImgMap W b (ksOf R C L V)) (hi : i < L.length) (hz : z = L.getD i []) (hs : s = lastS (V.getD i []))
    (d : Tmp) (_hd : o.dst = some d) (hgd : o.guard = none) (y x : Operand) (ho : o.op = .lookup 74 y x false) (hy : a.eval y = .map (some b)) (hx : a.eval x = .agg (vec 25 (imgC R C z)))
    (hK : wpList Tryz.prog ops Q rest (a.put o.dst (swV s)) W) : wpList Tryz.prog ops Q (o :: rest) a W := by
  subst hz; subst hs
  exact wpList_lookupAt hm hb h hi d _hd hgd y x ho hy hx hK
/-- What stands at the loop: image i, its way still to go, the switches so far. -/
def PtSt (w : World) (R C b : Nat) (L : List (List (List Int))) (V : List (List Sw)) (P : List Sw) (i gw : Nat) (v : Value) (w' : World) : Prop :=
  ∃ path, path ++ (V.getD i []).reverse = P.reverse ∧ path.length + (V.getD i []).length = P.length ∧ SwAt w' gw (lastS (V.getD i [])) ∧ w.heap.size + 1 ≤ gw ∧ v.ownBlock ≠ some gw ∧ Blk w' w.heap.size 70 25 (imgC R C (L.getD i [])) ∧ OwnSws w' (w.heap.size + 1) v path ∧ ImgMap w' b (ksOf R C L V) ∧ Below w.heap.size w w'
set_option maxHeartbeats 4000000 in
theorem pathTo_any (hrev : RevAt) {R C : Nat} {m : List (List Int)} {L : List (List (List Int))} {V : List (List Sw)} {k0 K i0 b : Nat} (w : World) (hm : Node R C m) (hR : R ≤ 4) (hC : C ≤ 4) (hb : Bfs m L V k0 K) (hi : i0 < L.length) (hmap : ImgMap w b (ksOf R C L V)) :
    Calls Tryz.prog 55 #[.map (some b), .agg (vec 25 (imgC R C (L.getD i0 [])))] w (SwsRes (V.getD i0 []) w) := by
  have HM := hide hm; have HBF := hide hb; have HREV := hide hrev
  have HPL : Hid ((V.getD i0 []).length ≤ 65536) := hide (by have := tree_len hb i0 i0 (Nat.le_refl _) hi; have := bfs_size hm hR hC hb; omega)
  have HI0 := hide hi
  have HBL := imgMap_lt hmap
  obtain ⟨x0, hx0⟩ : ∃ x, x = L.getD i0 [] := ⟨_, rfl⟩
  have HX0 := hide hx0
  obtain ⟨q0, hq0⟩ : ∃ s, s = lastS (V.getD i0 []) := ⟨_, rfl⟩
  have HQ0 := hide hq0
  rw [← hx0]
  have al := (Below.refl w.heap.size w).alloc (Nat.le_refl _) (.cells (vec 25 (imgC R C x0)) 70)
  have hp : Blk _ w.heap.size 70 25 (imgC R C x0) := heap_alloc_new w (.cells (vec 25 (imgC R C x0)) 70)
  have HMA := hide (imgMap_below hmap al)
  have hsa : (w.alloc (.cells (vec 25 (imgC R C x0)) 70)).heap.size = w.heap.size + 1 := by simp
  obtain ⟨w1, hw1⟩ : ∃ w1, w1 = w.alloc (.cells (vec 25 (imgC R C x0)) 70) := ⟨_, rfl⟩
  have HW1 := hide hw1
  have HAL := hide al
  obtain ⟨P, hP⟩ : ∃ P, P = V.getD i0 [] := ⟨_, rfl⟩
  have HP := hide hP
  rw [← hP] at HPL ⊢
  clear hm hb hi hmap hrev hR hC hP hx0 hq0 hw1 al
  go_enter Tryz.func55, Tryz.ntmps55
  go_wp2_with (first | (with_reducible refine wpList_loadVec hp 8 rfl rfl _ rfl rfl Tryz.underlying70 Tryz.sizeImg ?_) | (with_reducible refine wpList_lookupX HM.out HBF.out HMA.out HI0.out HX0.out HQ0.out 9 rfl rfl (.tmp 7) (.tmp 8) rfl rfl rfl ?_) | ((with_reducible refine wpList_allocSw 6 rfl rfl rfl ?_); intro w2 h2 b2 s2) | ((refine wpList_storeSw h2 q0 rfl (.tmp 6) (.tmp 9) rfl rfl rfl ?_); intro w3 h3 g3 s3))
  rw [hsa] at h2 h3 b2 g3 s2
  have b3 := b2.trans (grown_below g3 (fun k hk => by cases hk; exact Nat.le_refl _) (by omega))
  have b4 := HAL.out.trans (b3.mono (Nat.le_succ _))
  have HST : Hid (PtSt w R C b L V P i0 (w.heap.size + 1) (.slice none 0 0) w3) := hide ⟨[], by rw [← HP.out]; rfl, by rw [← HP.out]; simp, by rw [← HQ0.out]; exact h3, Nat.le_refl _, by simp [Value.ownBlock], by rw [← HX0.out]; exact blk_below hp (by rw [hsa]; exact b3), ownSws_nil _ _, imgMap_below HMA.out (by rw [hsa]; exact b3), b4⟩
  have HSA := hide hsa
  clear h2 h3 b2 g3 s2 s3 b3 b4 hp hsa HAL HMA HW1
  go_frame
  go_loopg [5, 6] P.length (fun g v u w' => ∃ i gw, (V.getD i []).length = g ∧ i < L.length ∧ u = .pointer (some ⟨gw, 0, none⟩) ∧ PtSt w R C b L V P i gw v w')
  case atStart => exact ⟨i0, w.heap.size + 1, by rw [← HP.out], HI0.out, by rw [HSA.out], HST.out⟩
  case round =>
    clear HST HI0 HX0 HQ0
    obtain ⟨i, gw, hlen, hi, rfl, hst⟩ := hrel
    have HI := hide hi; have HST := hide hst
    obtain ⟨path, hp1, hp2, hp3, hp4, hp5, hp6, hp7, hp8, hp9⟩ := hst
    have HP1 := hide hp1; have HO := hide hp7
    cases gk with
    | zero =>
      have hnil : V.getD i [] = [] := List.eq_nil_of_length_eq_zero hlen
      have HS := hide hp3
      rw [hnil] at HS HP1
      have hneq : ∀ w, (binOp .neq 111 (swV zeroSw) (.agg #[.int .i64 0, .int .i64 0, .int .i64 0, .int .i64 0])).run Tryz.prog w = .ok (.bool false) w := run_neqSw zero_wf zero_wf false (by simp)
      have heg : ∀ w, (eqGuard .neq 111 (.tmp 10) (.tmp 11) (swV zeroSw) (.agg #[.int .i64 0, .int .i64 0, .int .i64 0, .int .i64 0])).run Tryz.prog w = .ok () w := eqGuard_sw zeroSw zeroSw _ _
      unfold lastS at HS
      rw [List.getLastD_nil] at HS
      have HPE : Hid (path = P.reverse) := hide (by simpa using HP1.out)
      have HPR : Hid (path.length ≤ 65536) := hide (by have := HPL.out; omega)
      have HBW := hide hp9
      clear hlen hi hp1 hp2 hp3 hp4 hp5 hp6 hp7 hp8 hp9 hnil HST
      go_wp2_with (first | (with_reducible refine wpList_loadSw HS.out 10 rfl rfl _ rfl rfl ?_) | ((with_reducible refine (HREV.out _ path (w.heap.size + 1) _ HO.out HPR.out).mono ?_); rintro e w9 ⟨rfl, ho9, g9⟩))
      go_ret
      exact ⟨_, rfl, by rw [show P = path.reverse by rw [HPE.out, List.reverse_reverse]]; exact ownSws_base ho9 (Nat.le_succ _), HBW.out.trans (grown_below g9 (fun k hk => Nat.le_trans (Nat.le_succ _) (HO.out.lt k hk).1) HBW.out.size)⟩
    | succ g =>
      obtain ⟨j, s, hj, he, hjl, hsb, hfl⟩ := tree_back HM.out HBF.out hi hlen
      have HJ := hide hj; have HJL := hide hjl
      have HNX := hide (bfs_node HM.out HBF.out hi)
      have HNY := hide (bfs_node HM.out HBF.out hj)
      rw [he, lastS_snoc] at hp3
      have HPE : Hid ((path ++ [s]) ++ (V.getD j []).reverse = P.reverse) := hide (by rw [← hp1, he]; simp)
      have HPN : Hid ((path ++ [s]).length + (V.getD j []).length = P.length) := hide (by rw [← hp2, he]; simp; omega)
      have HPR : Hid (path.length < 4000000) := hide (by have := HPL.out; omega)
      obtain ⟨x, hx⟩ : ∃ x, x = L.getD i [] := ⟨_, rfl⟩
      obtain ⟨y, hy⟩ : ∃ y, y = L.getD j [] := ⟨_, rfl⟩
      obtain ⟨s2, hs2⟩ : ∃ s2, s2 = lastS (V.getD j []) := ⟨_, rfl⟩
      have HY := hide hy; have HS2 := hide hs2
      rw [← hx] at HNX hsb hfl hp6
      rw [← hy] at HNY hfl
      have HSB := hide hsb; have HFL := hide hfl
      obtain ⟨hw1, hw2⟩ := swB_wf HNX.out hsb
      have hneq : ∀ w, (binOp .neq 111 (swV s) (.agg #[.int .i64 0, .int .i64 0, .int .i64 0, .int .i64 0])).run Tryz.prog w = .ok (.bool true) w := run_neqSw hw1 zero_wf true (by simpa using hw2)
      have heg : ∀ w, (eqGuard .neq 111 (.tmp 10) (.tmp 11) (swV s) (.agg #[.int .i64 0, .int .i64 0, .int .i64 0, .int .i64 0])).run Tryz.prog w = .ok () w := eqGuard_sw s zeroSw _ _
      have HS := hide hp3; have HG := hide hp4; have HNE := hide hp5; have HX := hide hp6; have HMP := hide hp8; have HB := hide hp9
      have HGL := hide (swAt_lt hp3)
      have HZ : Hid (w.heap.size + 1 ≤ wr.heap.size) := hide (by have := swAt_lt hp3; omega)
      clear hlen hi hp1 hp2 hp3 hp4 hp5 hp6 hp7 hp8 hp9 hj he hjl hsb hfl hx hy hs2 hw1 hw2 HST
      go_wp2_with (first | (with_reducible refine wpList_loadSw HS.out 10 rfl rfl _ rfl rfl ?_) | (with_reducible refine wpList_loadSw HS.out 17 rfl rfl _ rfl rfl ?_) | (with_reducible refine wpList_buildOneA (swA s) _ 18 rfl rfl (.tmp 17) rfl rfl Tryz.underlying66 Tryz.infoSw (by decide) (by decide) rfl ?_) | (at_builtin; refine wpList_pushA HO.out (swA s) _ rfl _ _ rfl Tryz.underlying66 Tryz.infoSw rfl (by decide) (by decide) rfl rfl rfl (swA_one s) HPR.out HZ.out ?_; intro g1 cap wa hown ba ga ata lta; have A1 := hide (swAt_grown HS.out ga HNE.out); have A2 : Hid (Blk wa w.heap.size 70 25 (imgC R C x)) := hide (by have := HX.out; unfold Blk at this ⊢; rw [ba.block w.heap.size (Nat.lt_succ_self _)]; exact this); have A3 := hide (imgMap_heap HMP.out (ba.block b (by omega))); have A4 := hide hown; have A5 := hide (HB.out.trans (ba.mono (Nat.le_succ _))); have A6 : Hid (g1 ≠ gw) := hide (ata.elim (fun e e2 => HNE.out (by rw [e, e2])) (fun e => by have := HGL.out; omega)); clear hown ba ga ata lta) | (with_reducible refine wpList_loadVec A2.out 20 rfl rfl _ rfl rfl Tryz.underlying70 Tryz.sizeImg ?_) | (with_reducible refine wpList_loadSw A1.out 21 rfl rfl _ rfl rfl ?_) | ((with_reducible refine (imgC_flip _ HNX.out HSB.out).mono ?_); rw [HFL.out]; rintro e w10 ⟨rfl, hb⟩; have B1 := hide (swAt_below A1.out hb); have B2 := hide (blk_below A2.out hb); have B3 := hide (imgMap_below A3.out hb); have B4 := hide (ownA_below A4.out hb); have B5 := hide (A5.out.trans (hb.mono A5.out.size)); clear hb A1 A2 A3 A4 A5) | ((with_reducible refine wpList_storeVec B2.out rfl (.tmp 3) (.tmp 22) rfl rfl rfl Tryz.sizeImg ?_); intro wb hk gb sb; have C1 := hide (swAt_grown B1.out gb (by intro e; have := Option.some.inj e; have := HG.out; omega)); have C2 := hide hk; have C3 := hide (imgMap_grown B3.out gb (by intro e; have := Option.some.inj e; omega)); have C4 := hide (B4.out.kept gb (.inr (by intro e; have := (B4.out.lt _ e).1; omega))); have C5 := hide (B5.out.trans (grown_below gb (fun k hk => by cases hk; exact Nat.le_refl _) B5.out.size)); clear hk gb sb B1 B2 B3 B4 B5) | (with_reducible refine wpList_loadSw C1.out 23 rfl rfl _ rfl rfl ?_) | ((with_reducible refine wpList_allocSw 6 rfl rfl rfl ?_); intro wc hc bc sc) | ((with_reducible refine wpList_storeSw hc s rfl (.tmp 6) (.tmp 23) rfl rfl rfl ?_); intro wd hd gd sd; have bd := bc.trans (grown_below gd (fun k hk => by cases hk; exact Nat.le_refl _) bc.size); have D1 := hide hd; have D2 := hide (blk_below C2.out bd); have D3 := hide (imgMap_below C3.out bd); have D4 := hide (ownA_below C4.out bd); have D5 := hide (C5.out.trans (bd.mono C5.out.size)); have D6 : Hid (g1 < wb.heap.size) := hide (C4.out.lt g1 rfl).2; have D7 : Hid (w.heap.size + 1 ≤ wb.heap.size) := hide (by have := (C4.out.lt g1 rfl); omega); clear hc bc sc hd gd sd bd) | (with_reducible refine wpList_loadVec D2.out 14 rfl rfl _ rfl rfl Tryz.underlying70 Tryz.sizeImg ?_) | (with_reducible refine wpList_lookupX HM.out HBF.out D3.out HJ.out HY.out HS2.out 15 rfl rfl (.tmp 13) (.tmp 14) rfl rfl rfl ?_) | ((with_reducible refine wpList_storeSw D1.out s2 rfl (.tmp 6) (.tmp 15) rfl rfl rfl ?_); intro we he ge se))
      have E1 := hide he
      have E2 := hide (blk_grown D2.out ge (by intro e; have := Option.some.inj e; have := D7.out; omega))
      have E3 := hide (imgMap_grown D3.out ge (by intro e; have := Option.some.inj e; have := D7.out; omega))
      have E4 := hide (D4.out.kept ge (.inr (by intro e; have h1 : g1 = wb.heap.size := Option.some.inj e; have := D6.out; omega)))
      have E5 := hide (D5.out.trans (grown_below ge (fun k hk => by have := Option.some.inj hk; have := D7.out; omega) D5.out.size))
      clear he ge se D1 D2 D3 D4 D5
      go_frame
      go_roundg g
      case measure => exact Nat.lt_succ_self g
      case rel =>
        refine ⟨j, wb.heap.size, HJL.out, HJ.out, rfl, path ++ [s], HPE.out, HPN.out, by rw [← HS2.out]; exact E1.out, D7.out, ?_, by rw [← HY.out]; exact E2.out, ?_, E3.out, E5.out⟩
        · intro e
          have h1 : g1 = wb.heap.size := Option.some.inj e
          have := D6.out; omega
        · unfold OwnSws
          rw [cellsS_snoc, List.length_append]
          exact E4.out
end Go.Proofs.YtpfaaglaeholbaaGreat
/-
  The exact laws' helpers at switches: toSwitch, toSwitchS, szSwitchS, markSwitchS, heldSwitchS.
-/
namespace Go.Proofs.YtpfaaglaeholbaaGreat
open Go.RowKit

def set4 (xs : List Value) (k : Nat) (s : Sw) : List Value := (((xs.set k (.int .i64 s.y1)).set (k + 1) (.int .i64 s.y2)).set (k + 2) (.int .i64 s.x1)).set (k + 3) (.int .i64 s.x2)
theorem set4_len (xs : List Value) (k : Nat) (s : Sw) : (set4 xs k s).length = xs.length := by simp [set4]
theorem set4_fill {l : List Sw} {xs : List Value} {k : Nat} (h : xs.length = l.length * 4) (hk : k < l.length) : set4 (cellsS (l.take k) ++ xs.drop (k * 4)) (k * 4) l[k] = cellsS (l.take (k + 1)) ++ xs.drop ((k + 1) * 4) := by
  have hl : (cellsS (l.take k)).length = k * 4 := by rw [cellsS_len, List.length_take]; omega
  obtain ⟨a, b, c, d, r, hr⟩ : ∃ a b c d r, xs.drop (k * 4) = a :: b :: c :: d :: r := by
    have : 4 ≤ (xs.drop (k * 4)).length := by rw [List.length_drop]; omega
    match hx : xs.drop (k * 4), this with
    | a :: b :: c :: d :: r, _ => exact ⟨a, b, c, d, r, rfl⟩
  have hd : xs.drop ((k + 1) * 4) = r := by
    rw [show (k + 1) * 4 = k * 4 + 4 by omega, ← List.drop_drop, hr]; rfl
  rw [hd, hr, List.take_succ_eq_append_getElem hk, cellsS_snoc]
  unfold set4
  rw [List.set_append_right _ _ (by omega), List.set_append_right _ _ (by omega), List.set_append_right _ _ (by omega), List.set_append_right _ _ (by omega), hl]
  rw [show k * 4 - k * 4 = 0 by omega, show k * 4 + 1 - k * 4 = 1 by omega, show k * 4 + 2 - k * 4 = 2 by omega, show k * 4 + 3 - k * 4 = 3 by omega]
  simp [swA]
/-- A switch is stored in a slice of the call's own. -/
theorem exec_storeSwOwn {ρ : Operand → Value} {o : Oper} {w : World} {x y : Operand} {base e g n c i : Nat} {xs : List Value} {s : Sw} (ho : o.op = .store 111 x y) (hx : ρ x = .pointer (some ⟨g, i * 4, none⟩)) (hy : ρ y = swV s)
    (h : w.ownsRow base e 4 (.slice (some ⟨g, 0, none⟩) n c) n xs) (hi : i < n) : ∃ w', (execOp ρ o).run Tryz.prog w = .ok .skip w' ∧ w'.ownsRow base e 4 (.slice (some ⟨g, 0, none⟩) n c) n (set4 xs (i * 4) s) ∧ w.grownBy w' (some g) := by
  have hl := h.1
  have hc : ∀ j, j < n * 4 → ∃ u, w.cell? ⟨g, j, none⟩ = some u := fun j hj => ⟨xs[j], by rw [h.cellAt j hj, List.getElem?_eq_getElem (by omega)]⟩
  obtain ⟨u0, h0⟩ := hc (i * 4) (by omega); obtain ⟨u1, h1⟩ := hc (i * 4 + 1) (by omega); obtain ⟨u2, h2⟩ := hc (i * 4 + 2) (by omega); obtain ⟨u3, h3⟩ := hc (i * 4 + 3) (by omega)
  have f0 := h.frozenAt (i * 4); have f1 := h.frozenAt (i * 4 + 1); have f2 := h.frozenAt (i * 4 + 2); have f3 := h.frozenAt (i * 4 + 3)
  obtain ⟨a1, b1⟩ := h.stored (i * 4) (.int .i64 s.y1)
  obtain ⟨a2, b2⟩ := a1.stored (i * 4 + 1) (.int .i64 s.y2)
  obtain ⟨a3, b3⟩ := a2.stored (i * 4 + 2) (.int .i64 s.x1)
  obtain ⟨a4, b4⟩ := a3.stored (i * 4 + 3) (.int .i64 s.x2)
  refine ⟨_, ?_, a4, grown_trans (grown_trans (grown_trans b1 b2) b3) b4⟩
  unfold execOp
  simp only [ho, hx, hy, swV, swA]
  go_simp
theorem wpList_storeSwOwn {ops : Array Oper} {rest : List Oper} {o : Oper} {a : Act} {Q : Exit → Act → World → Prop} {W : World} {base e g n c i : Nat} {xs : List Value} {s : Sw} (h : W.ownsRow base e 4 (.slice (some ⟨g, 0, none⟩) n c) n xs) (hi : i < n)
    (hgd : o.guard = none) (x y : Operand) (ho : o.op = .store 111 x y) (hx : a.eval x = .pointer (some ⟨g, i * 4, none⟩)) (hy : a.eval y = swV s)
    (hK : ∀ w', w'.ownsRow base e 4 (.slice (some ⟨g, 0, none⟩) n c) n (set4 xs (i * 4) s) → W.grownBy w' (some g) → wpList Tryz.prog ops Q rest (a.put o.dst undef) w') : wpList Tryz.prog ops Q (o :: rest) a W := by
  refine wpList_plain hgd fun K hk => ?_
  obtain ⟨w', h1, h2, h3⟩ := exec_storeSwOwn (ρ := a.eval) ho hx hy h hi
  unfold Oper.wp
  rw [h1]
  exact hk _ _ (hK w' h2 h3)

def SizeS (n left : Nat) (w : World) (e : Ending) (w' : World) : Prop := ∃ r : Int, e = .returned (.int .i64 r) ∧ ((r = -1) ∨ (n ≤ left ∧ r = (left - n : Nat))) ∧ w = w'
/-- The cells are marked one after the other. -/
theorem mark_cell (q j m : Nat) (xs : List Value) (hl : xs.length = m) (hj : j < m) : (ints (markR j q) ++ xs.drop j).set j (.int .i64 ((q + j : Nat) : Int)) = ints (markR (j + 1) q) ++ xs.drop (j + 1) := markR_set m q j xs hl hj
/-- A slice of n elements of four cells, each one greater than the one before. -/
def HeldC (w : World) (v : Value) (n q : Nat) : Prop := ∃ a c, v = .slice a n c ∧ n ≤ maxLen ∧ (n = 0 ∨ ∃ g o, a = some ⟨g, o, none⟩ ∧ g < w.heap.size ∧ ∀ j, j < n * 4 → w.cell? ⟨g, o + j, none⟩ = some (.int .i64 ((q + j : Nat) : Int)))
theorem heldC_below {w w' : World} {v : Value} {n q : Nat} (h : HeldC w v n q) (hb : Below w.heap.size w w') : HeldC w' v n q := by
  obtain ⟨a, c, hv, hm, hp⟩ := h
  refine ⟨a, c, hv, hm, ?_⟩
  rcases hp with h0 | ⟨g, o, ha, hg, hc⟩
  · exact .inl h0
  · exact .inr ⟨g, o, ha, Nat.lt_of_lt_of_le hg hb.size, fun j hj => below_cell hb hg (hc j hj)⟩
theorem heldC_own {w : World} {base e n q : Nat} {v : Value} (h : w.ownsRow base e 4 v n (ints (markR (n * 4) q))) : HeldC w v n q := by
  rcases h.2 with ⟨rfl, h0⟩ | ⟨g, cap, cur, rfl, hbg, hg, hc, hm, _⟩
  · exact ⟨none, 0, by rw [h0], by omega, .inl h0⟩
  · refine ⟨_, _, rfl, by omega, .inr ⟨g, 0, rfl, (Array.getElem?_eq_some_iff.1 hg).1, fun j hj => ?_⟩⟩
    rw [Nat.zero_add, h.cellAt j hj, ints_at _ j (by rw [markR_len]; exact hj), markR_at]
end Go.Proofs.YtpfaaglaeholbaaGreat
/-
  slices.Reverse at switches.
-/
namespace Go.Proofs.YtpfaaglaeholbaaGreat
open Go.RowKit
set_option maxRecDepth 100000

theorem grown_drewR {w w' : World} {row : Option Nat} (h : w.grownBy w' row) : w.grownBy w'.drew row := ⟨h.os, h.tape, h.output, h.size, h.block⟩
/-- Turned round from both ends, k places in. -/
def revF (l : List Sw) (k : Nat) : List Sw := (List.range l.length).map fun t => if t < k ∨ l.length ≤ t + k then l.getD (l.length - 1 - t) zeroSw else l.getD t zeroSw
theorem revF_len (l : List Sw) (k : Nat) : (revF l k).length = l.length := by simp [revF]
theorem revF_at (l : List Sw) (k t : Nat) (h : t < (revF l k).length) : (revF l k)[t] = if t < k ∨ l.length ≤ t + k then l.getD (l.length - 1 - t) zeroSw else l.getD t zeroSw := by simp [revF]
theorem revF_zero (l : List Sw) : revF l 0 = l := by
  refine List.ext_getElem (revF_len l 0) fun t h1 h2 => ?_
  rw [revF_at, if_neg (by omega), List.getD_eq_getElem?_getD, List.getElem?_eq_getElem h2]; rfl
theorem revF_end {l : List Sw} {k : Nat} (h : l.length ≤ 2 * k + 1) : revF l k = l.reverse := by
  refine List.ext_getElem (by rw [revF_len]; simp) fun t h1 h2 => ?_
  have ht : t < l.length := by simpa using h2
  rw [revF_at, List.getElem_reverse]
  by_cases e : t < k ∨ l.length ≤ t + k
  · rw [if_pos e, List.getD_eq_getElem?_getD, List.getElem?_eq_getElem (by omega)]; rfl
  · rw [if_neg e, List.getD_eq_getElem?_getD, List.getElem?_eq_getElem (by omega), Option.getD_some]
    congr 1; omega
theorem revF_step {l : List Sw} {k q : Nat} (h : k + q + 1 = l.length) (hkq : k < q) : ((revF l k).set k (l.getD q zeroSw)).set q (l.getD k zeroSw) = revF l (k + 1) := by
  refine List.ext_getElem (by simp [revF_len]) fun t h1 h2 => ?_
  have ht : t < l.length := by rw [revF_len] at h2; exact h2
  rw [List.getElem_set, List.getElem_set, revF_at, revF_at]
  by_cases e1 : q = t
  · subst e1
    rw [if_pos rfl, if_pos (by omega), show l.length - 1 - q = k by omega]
  · rw [if_neg e1]
    by_cases e2 : k = t
    · subst e2
      rw [if_pos rfl, if_pos (by omega), show l.length - 1 - k = q by omega]
    · rw [if_neg e2]
      by_cases e : t < k ∨ l.length ≤ t + k
      · rw [if_pos e, if_pos (by omega)]
      · rw [if_neg e, if_neg (by omega)]
theorem cellsS_set : ∀ (l : List Sw) (k : Nat) (s : Sw), k < l.length → cellsS (l.set k s) = set4 (cellsS l) (k * 4) s
  | [], k, s, h => by simp at h
  | x :: l, 0, s, _ => by simp [cellsS, set4]
  | x :: l, k + 1, s, h => by
    have ih := cellsS_set l k s (by simpa using h)
    have e1 : ∀ l : List Sw, cellsS (x :: l) = .int .i64 x.y1 :: .int .i64 x.y2 :: .int .i64 x.x1 :: .int .i64 x.x2 :: cellsS l := fun l => by simp [cellsS]
    rw [List.set_cons_succ, e1, ih, e1]
    unfold set4
    rw [show (k + 1) * 4 = k * 4 + 1 + 1 + 1 + 1 by omega, show k * 4 + 1 + 1 + 1 + 1 + 1 = (k * 4 + 1) + 1 + 1 + 1 + 1 by omega, show k * 4 + 1 + 1 + 1 + 1 + 2 = (k * 4 + 2) + 1 + 1 + 1 + 1 by omega, show k * 4 + 1 + 1 + 1 + 1 + 3 = (k * 4 + 3) + 1 + 1 + 1 + 1 by omega]
    simp only [List.set_cons_succ]
theorem revF_q (l : List Sw) {k q : Nat} (h : k + q + 1 = l.length) (hkq : k < q) : (revF l k).getD k zeroSw = l.getD k zeroSw ∧ (revF l k).getD q zeroSw = l.getD q zeroSw := by
  have h1 : k < (revF l k).length := by rw [revF_len]; omega
  have h2 : q < (revF l k).length := by rw [revF_len]; omega
  rw [List.getD_eq_getElem?_getD, List.getD_eq_getElem?_getD (l := revF l k), List.getElem?_eq_getElem h1, List.getElem?_eq_getElem h2, Option.getD_some, Option.getD_some, revF_at, revF_at, if_neg (by omega), if_neg (by omega)]
  exact ⟨rfl, rfl⟩
set_option maxHeartbeats 4000000 in
theorem reverse_any : RevAt := by
  intro v l lo w h hl
  have HL := hide hl
  obtain ⟨al, c, rfl⟩ := ownA_slice h
  have HO := hide h
  have HGR := hide (⟨rfl, rfl, rfl, Nat.le_refl _, fun _ _ _ => rfl⟩ : w.grownBy w (Value.slice al l.length c).ownBlock)
  obtain ⟨n, hn⟩ : ∃ n, n = l.length := ⟨_, rfl⟩
  have HN := hide hn
  rw [← hn] at hl HGR ⊢
  rw [← hn] at HO
  clear h hn
  go_enter Tryz.func103, Tryz.ntmps103
  go_wp2
  have HWR : Hid (IntKind.i64.wrap ((n : Int) - 1) = (n : Int) - 1) := hide (IntWalk.i64_in _ (by omega))
  go_loopg [2, 3] n (fun g i j w' => ∃ k : Nat, k + g = n ∧ 2 * k ≤ n + 1 ∧ i = .int .i64 k ∧ j = .int .i64 ((n : Int) - 1 - k) ∧ OwnSws w' lo (.slice al n c) (revF l k) ∧ w.grownBy w' (Value.slice al n c).ownBlock)
  case atStart => exact ⟨0, by omega, by omega, rfl, by go_num, by rw [revF_zero]; exact HO.out, HGR.out⟩
  case round =>
    clear HO HGR
    obtain ⟨k, hkg, hk2, rfl, rfl, ho, hg⟩ := hrel
    have HO := hide ho; have HG := hide hg
    by_cases hlt : 2 * k + 1 < n
    · obtain ⟨g, rfl⟩ : ∃ g, gk = g + 1 := ⟨gk - 1, by omega⟩
      obtain ⟨q, hq⟩ : ∃ q, k + q + 1 = n := ⟨n - 1 - k, by omega⟩
      have hqI : (n : Int) - 1 - k = q := by omega
      have hkq : (k : Int) < q := by omega
      have hkn : k < n := by omega
      have hqn : q < n := by omega
      have hknI : (k : Int) < n := by omega
      have hqnI : (q : Int) < n := by omega
      have hlk : k < (revF l k).length := by rw [revF_len, ← HN.out]; omega
      have hlq : q < (revF l k).length := by rw [revF_len, ← HN.out]; omega
      obtain ⟨gv, c2, e, -⟩ := ownA_some ho (by rw [revF_len, ← HN.out]; omega)
      obtain rfl : al = some ⟨gv, 0, none⟩ := by injection e
      have HRL : Hid ((revF l k).length = n) := hide (by rw [revF_len, ← HN.out])
      clear e
      obtain ⟨r1, r2⟩ := revF_q l (k := k) (q := q) (by rw [← HN.out]; exact hq) (by omega)
      have hsk := sws_cell ho k hlk
      have hsq := sws_cell ho q hlq
      rw [r1] at hsk; rw [r2] at hsq
      obtain ⟨s, hs⟩ : ∃ s, s = l.getD k zeroSw := ⟨_, rfl⟩
      obtain ⟨u, hu⟩ : ∃ u, u = l.getD q zeroSw := ⟨_, rfl⟩
      have HS := hide hs; have HU := hide hu
      rw [← hs] at hsk; rw [← hu] at hsq
      obtain ⟨c0, c1, c2', c3⟩ := hsk
      obtain ⟨d0, d1, d2, d3⟩ := hsq
      have hor : wr.ownsRow lo 111 4 (.slice (some ⟨gv, 0, none⟩) n c) n (cellsS (revF l k)) := by have := ho; unfold OwnSws at this; rw [HRL.out] at this; exact this
      have HOR := hide hor
      have hfr : ∀ i, wr.frozen? ⟨gv, i, none⟩ = false := fun i => hor.frozenAt i
      rw [hqI]
      clear hs hu ho hor hg r1 r2 hlk hlq c2
      go_wp2
      go_region
      obtain ⟨a1, b1⟩ := HOR.out.stored (k * 4) (.int .i64 u.y1)
      obtain ⟨a2, b2⟩ := a1.stored (k * 4 + 1) (.int .i64 u.y2)
      obtain ⟨a3, b3⟩ := a2.stored (k * 4 + 2) (.int .i64 u.x1)
      obtain ⟨a4, b4⟩ := a3.stored (k * 4 + 3) (.int .i64 u.x2)
      obtain ⟨a5, b5⟩ := a4.stored (q * 4) (.int .i64 s.y1)
      obtain ⟨a6, b6⟩ := a5.stored (q * 4 + 1) (.int .i64 s.y2)
      obtain ⟨a7, b7⟩ := a6.stored (q * 4 + 2) (.int .i64 s.x1)
      obtain ⟨a8, b8⟩ := a7.stored (q * 4 + 3) (.int .i64 s.x2)
      have HW : ((((((((wr.setCell ⟨gv, k * 4, none⟩ (.int .i64 u.y1)).setCell ⟨gv, k * 4 + 1, none⟩ (.int .i64 u.y2)).setCell ⟨gv, k * 4 + 2, none⟩ (.int .i64 u.x1)).setCell ⟨gv, k * 4 + 3, none⟩ (.int .i64 u.x2)).setCell ⟨gv, q * 4, none⟩ (.int .i64 s.y1)).setCell ⟨gv, q * 4 + 1, none⟩ (.int .i64 s.y2)).setCell ⟨gv, q * 4 + 2, none⟩ (.int .i64 s.x1)).setCell ⟨gv, q * 4 + 3, none⟩ (.int .i64 s.x2)).drew.ownsRow lo 111 4 (.slice (some ⟨gv, 0, none⟩) n c) n (set4 (set4 (cellsS (revF l k)) (k * 4) u) (q * 4) s) := ownA_below a8 (below_drew (Below.refl _ _))
      have HGW : wr.grownBy ((((((((wr.setCell ⟨gv, k * 4, none⟩ (.int .i64 u.y1)).setCell ⟨gv, k * 4 + 1, none⟩ (.int .i64 u.y2)).setCell ⟨gv, k * 4 + 2, none⟩ (.int .i64 u.x1)).setCell ⟨gv, k * 4 + 3, none⟩ (.int .i64 u.x2)).setCell ⟨gv, q * 4, none⟩ (.int .i64 s.y1)).setCell ⟨gv, q * 4 + 1, none⟩ (.int .i64 s.y2)).setCell ⟨gv, q * 4 + 2, none⟩ (.int .i64 s.x1)).setCell ⟨gv, q * 4 + 3, none⟩ (.int .i64 s.x2)).drew (some gv) := grown_drewR (grown_trans (grown_trans (grown_trans (grown_trans (grown_trans (grown_trans (grown_trans b1 b2) b3) b4) b5) b6) b7) b8)
      clear a1 a2 a3 a4 a5 a6 a7 a8 b1 b2 b3 b4 b5 b6 b7 b8
      generalize ((((((((wr.setCell ⟨gv, k * 4, none⟩ (.int .i64 u.y1)).setCell ⟨gv, k * 4 + 1, none⟩ (.int .i64 u.y2)).setCell ⟨gv, k * 4 + 2, none⟩ (.int .i64 u.x1)).setCell ⟨gv, k * 4 + 3, none⟩ (.int .i64 u.x2)).setCell ⟨gv, q * 4, none⟩ (.int .i64 s.y1)).setCell ⟨gv, q * 4 + 1, none⟩ (.int .i64 s.y2)).setCell ⟨gv, q * 4 + 2, none⟩ (.int .i64 s.x1)).setCell ⟨gv, q * 4 + 3, none⟩ (.int .i64 s.x2)).drew = w9 at HW HGW ⊢
      have E1 : Hid (OwnSws w9 lo (.slice (some ⟨gv, 0, none⟩) n c) (revF l (k + 1))) := hide (by
        unfold OwnSws
        rw [← revF_step (l := l) (k := k) (q := q) (by rw [← HN.out]; exact hq) (by omega), cellsS_set _ _ _ (by rw [List.length_set, revF_len, ← HN.out]; exact hqn), cellsS_set _ _ _ (by rw [revF_len, ← HN.out]; exact hkn), ← HS.out, ← HU.out, List.length_set, List.length_set, revF_len, ← HN.out]
        exact HW)
      have E2 := hide (grown_trans HG.out HGW)
      clear HW HGW
      go_wp2
      go_roundg g
      case measure => exact Nat.lt_succ_self g
      case rel => exact ⟨k + 1, by omega, by omega, by go_num, by go_num, E1.out, E2.out⟩
    · have hle : ¬ ((k : Int) < (n : Int) - 1 - k) := by omega
      have HE := hide (revF_end (l := l) (k := k) (by rw [← HN.out]; omega))
      clear ho hg
      go_wp2
      go_end0
      exact ⟨rfl, by rw [← HE.out]; exact HO.out, HG.out⟩
end Go.Proofs.YtpfaaglaeholbaaGreat
/-
  The program's images: inverted, distance, mirrored.
-/
namespace Go.Proofs.YtpfaaglaeholbaaGreat
open Go.RowKit

def invN (v : Int) : Int := if v = -1 then -1 else 1 - v
def upI (F : Nat → Int) (k : Nat) (i : Nat) : Int := if i < k then invN (F i) else F i
theorem upI_zero (F : Nat → Int) : upI F 0 = F := by funext i; simp [upI]
theorem upI_set (F : Nat → Int) (k : Nat) (v : Int) (h : invN (F k) = v) : (fun j => if j = k then v else upI F k j) = upI F (k + 1) := by
  funext j
  simp only [upI]
  by_cases e : j = k
  · subst e; simp [h]
  · rw [if_neg e]
    by_cases hl : j < k
    · rw [if_pos hl, if_pos (by omega)]
    · rw [if_neg hl, if_neg (by omega)]
theorem upI_skip (F : Nat → Int) (k : Nat) (h : F k = -1) : upI F k = upI F (k + 1) := by
  funext j
  simp only [upI]
  by_cases hl : j < k
  · rw [if_pos hl, if_pos (by omega)]
  · by_cases e : j = k
    · subst e; simp [h, invN]
    · rw [if_neg hl, if_neg (by omega)]
theorem upI_all (F : Nat → Int) : ∀ i, i < 25 → upI F (5 * 5) i = invN (F i) := fun i hi => by rw [upI, if_pos (by omega)]

/-- What distance answers: the number, and whether the sizes are the same. -/
def DistRes (b : Bool) (n : Nat) (w : World) (e : Ending) (w' : World) : Prop := e = .returned (.tuple #[.int .i64 (if b then n else 0 : Nat), .bool b]) ∧ Below w.heap.size w w'
theorem dist_no {b : Bool} {n : Nat} {w : World} {w' : World} (hb : b = false) (h : Below w.heap.size w w') : DistRes b n w (.returned (.tuple #[.int .i64 0, .bool false])) w' := by subst hb; exact ⟨rfl, h⟩
/-- Numbers put over others, from place o on. -/
def overF (F : Nat → Int) (o : Nat) (r : List Int) (j : Nat) : Int := if o ≤ j ∧ j < o + r.length then r.getD (j - o) 0 else F j
theorem blk_setCells {g n : Nat} {T : TypeId} : ∀ (r : List Int) (o : Nat) (w : World) (F : Nat → Int), Blk w g T n F → Blk (w.setCells g o (ints r)) g T n (overF F o r) ∧ w.grownBy (w.setCells g o (ints r)) (some g) ∧ (w.setCells g o (ints r)).heap.size = w.heap.size
  | [], o, w, F, h => ⟨blk_congr h fun i _ => by simp only [overF, List.length_nil]; rw [if_neg (by omega)], ⟨rfl, rfl, rfl, Nat.le_refl _, fun _ _ _ => rfl⟩, rfl⟩
  | x :: r, o, w, F, h => by
    have h1 := blk_set h o x
    obtain ⟨h2, h3, h4⟩ := blk_setCells r (o + 1) _ _ h1
    refine ⟨blk_congr h2 fun i _ => ?_, ?_, ?_⟩
    · simp only [overF, List.length_cons]
      by_cases e : i = o
      · subst e; rw [if_neg (by omega), if_pos rfl, if_pos (by omega), Nat.sub_self]; rfl
      · by_cases hl : o + 1 ≤ i ∧ i < o + 1 + r.length
        · rw [if_pos hl, if_pos (by omega), show i - o = (i - (o + 1)) + 1 by omega]; rfl
        · rw [if_neg hl, if_neg e, if_neg (by omega)]
    · refine grown_trans (b := w.setCell ⟨g, o, none⟩ (.int .i64 x)) ⟨rfl, rfl, rfl, by simp [World.setCell], fun k _ hr => heap_setCell_other w _ k _ fun e => hr (by rw [e])⟩ h3
    · show ((w.setCell ⟨g, o, none⟩ (.int .i64 x)).setCells g (o + 1) (ints r)).heap.size = w.heap.size
      rw [h4]; simp [World.setCell]
theorem vec_ints (n : Nat) (F : Nat → Int) : vecL n F = ints (rowF n F) := by simp [vecL, ints, rowF]

/-- A row goes into the middle of a variable. -/
theorem wpList_storeMid {P : Program} {ops : Array Oper} {rest : List Oper} {o : Oper} {a : Act} {Q : Exit → Act → World → Prop} {W : World} {g b n s : Nat} {T T' : TypeId} {F G : Nat → Int} (hb : Blk W g T n F)
    (hgd : o.guard = none) (x y : Operand) (ho : o.op = .store T' x y) (hx : a.eval x = .pointer (some ⟨g, b, none⟩)) (hy : a.eval y = .agg (vec s G)) (hi : (P.info? T').map (·.size) = some s) (hn : b + s ≤ n)
    (h : ∀ w', Blk w' g T n (fun j => if b ≤ j ∧ j < b + s then G (j - b) else F j) → W.grownBy w' (some g) → w'.heap.size = W.heap.size → wpList P ops Q rest (a.put o.dst undef) w') : wpList P ops Q (o :: rest) a W := by
  refine wpList_store_mid hgd T' x y ho g b (vec s G) hx hy (fun j hj => ?_) (by rw [hi, vec_size]) (vec_one s G) ?_
  · rw [vec_size] at hj
    exact ⟨by rw [blk_cell hb (b + j) (by omega)]; rfl, blk_frozen hb _⟩
  · have e : (vec s G).toList = ints (rowF s G) := by rw [← vec_ints]; rfl
    obtain ⟨h1, h2, h3⟩ := blk_setCells (rowF s G) b W F hb
    rw [e]
    refine h _ (blk_congr h1 fun i _ => ?_) h2 h3
    simp only [overF, rowF_len]
    by_cases hl : b ≤ i ∧ i < b + s
    · rw [if_pos hl, if_pos hl, List.getD_eq_getElem?_getD, List.getElem?_eq_getElem (by rw [rowF_len]; omega), Option.getD_some, rowF_at]
    · rw [if_neg hl, if_neg hl]

def mirR (n : Nat) (G : Nat → Int) (j : Nat) : Int := if j < n then G (n - 1 - j) else G j
end Go.Proofs.YtpfaaglaeholbaaGreat
