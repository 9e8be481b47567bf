/-
  Texts of this claim, one behind the other: Great, GreatW, LawsG.
-/
import Derived.Test.YtpfaaglaeholbaaGreatPackL
import Derived.Test.YtpfaaglaeholbaaGreatPackN
import Derived.Test.YtpfaaglaeholbaaGreatPackQ
import Derived.Test.YtpfaaglaeholbaaGreatPackR
import Derived.Maps.RangeWalk
import Derived.Test.YtpfaaglaeholbaaGreatPackH
/-
  GreatestPath of both.
-/
namespace Go.Proofs.YtpfaaglaeholbaaGreat
open Go.RowKit
open Go.WideElems (Fit rd rg rd_key rg_of)
set_option maxRecDepth 100000

/-- The greatest number of switches that an image with these sums wants from the first one. -/
def Great (m : List (List Int)) (M : Nat) : Prop := (∀ t q, Best m t q → q.length ≤ M) ∧ ∃ t q, Best m t q ∧ q.length = M
theorem great_one {m : List (List Int)} {M N : Nat} (h : Great m M) (h2 : Great m N) : M = N := by
  obtain ⟨t, q, hq, rfl⟩ := h.2
  obtain ⟨u, p, hp, rfl⟩ := h2.2
  exact Nat.le_antisymm (h2.1 t q hq) (h.1 u p hp)
theorem great_bfs {R C : Nat} {m : List (List Int)} {L : List (List (List Int))} {V : List (List Sw)} {K M : Nat} (hm : Node R C m) (h : Bfs m L V L.length K) (h1 : ∀ i, i < L.length → (V.getD i []).length ≤ M) (h2 : M = 0 ∨ ∃ i, i < L.length ∧ (V.getD i []).length = M) : Great m M := by
  refine ⟨fun t q hq => ?_, ?_⟩
  · obtain ⟨i, hi, rfl⟩ := mem_getD [] (bfs_all h q hq.1)
    rw [best_one hm hq (h.best i hi)]
    exact h1 i hi
  · rcases h2 with rfl | ⟨i, hi, e⟩
    · exact ⟨_, _, h.best 0 h.pos, by have := h1 0 h.pos; omega⟩
    · exact ⟨_, _, h.best i hi, e⟩
theorem list_mk {R C : Nat} {l : List (List Int)} (hl : l.length = R) (hq : ∀ q ∈ l, q.length = C) : l = mkM R C fun y x => (l.getD y []).getD x 0 := by
  subst hl
  refine List.ext_getElem? fun y => ?_
  by_cases hy : y < l.length
  · have h1 : l[y].length = C := hq _ (List.getElem_mem hy)
    unfold mkM rowF
    simp only [List.getElem?_map, List.getElem?_range hy, Option.map_some, List.getD_eq_getElem?_getD, List.getElem?_eq_getElem hy, Option.getD_some]
    congr 1
    refine List.ext_getElem? fun x => ?_
    by_cases hx : x < C
    · simp only [List.getElem?_map, List.getElem?_range hx, Option.map_some]
      rw [List.getElem?_eq_getElem (show x < l[y].length by omega)]; rfl
    · rw [List.getElem?_eq_none (by omega), List.getElem?_eq_none (by simp; omega)]
  · rw [List.getElem?_eq_none (by omega), List.getElem?_eq_none (by simp [mkM]; omega)]
/-- The first image. -/
theorem least_mk {r c : List Int} (h : existsOf r c = true) : ∃ f, imgL leastCh r c = mkM r.length c.length f ∧ Img r.length c.length f := by
  obtain ⟨hr, hc, -⟩ := sumsOk_yes (existsOf_sums h)
  have hi := img_of_exists h
  obtain ⟨l, hl⟩ := all_first r c hr.2 hc hi
  obtain ⟨h1, h2, h3⟩ := all_sound r c hr.2 hc hi (imgL leastCh r c) (by rw [hl]; exact List.mem_cons_self)
  exact ⟨_, list_mk h1 h2, hr.1, hr.2, hc.1, hc.2, h3.cell⟩
/-- What GreatestPath answers. -/
def GreatRes (r c : List Int) (w : World) (e : Ending) (w' : World) : Prop :=
  ∃ M : Int, e = .returned (.int .i64 M) ∧ Below w.heap.size w w' ∧
    ((existsOf r c && (decide (r.length ≤ 4) && decide (c.length ≤ 4))) = false → M = -1) ∧ ((existsOf r c && (decide (r.length ≤ 4) && decide (c.length ≤ 4))) = true → ∃ N : Nat, M = N ∧ Great (imgL leastCh r c) N)

/-- Reads the elements of the map as nothing. -/
def R0 : Value → Option (DataW Unit × List MemPlace) := fun _ => some (.nil, [])
/-- A range over the map under way; lf: what is still to come. -/
def IMR (w : World) (b r : Nat) (ks : List ((Nat → Int) × Sw)) (lf : Lit → Bool) : Prop :=
  (∃ n D cnt, w.ranges Tryz.prog 70 R0 b r n D lf cnt) ∧ ImgMap w b ks
theorem imr_below {w w' : World} {b r : Nat} {ks : List ((Nat → Int) × Sw)} {lf : Lit → Bool} (h : IMR w b r ks lf) (hb : Below w.heap.size w w') : IMR w' b r ks lf := by
  obtain ⟨⟨n, D, cnt, h1⟩, h2⟩ := h
  exact ⟨⟨n, D, cnt, h1.kept (grown_of_below hb none) (by simp) (by simp)⟩, imgMap_below h2 hb⟩
theorem imr_left {w w' : World} {b r : Nat} {ks : List ((Nat → Int) × Sw)} {lf : Lit → Bool} (h : IMR w b r ks lf) (hb : Below w.heap.size w w') : w'.rangeLeft b r = w.rangeLeft b r := by
  obtain ⟨⟨n, D, cnt, h1⟩, h2⟩ := h
  unfold World.rangeLeft
  rw [hb.block b (imgMap_lt h2), hb.block r h1.lt]
theorem imgMap_fit {w : World} {b : Nat} {ks : List ((Nat → Int) × Sw)} (h : ImgMap w b ks) (hw : ∀ p ∈ ks, WfI p.1) (hn : ks.length ≤ 70000) :
    ∃ es c, w.heap[b]? = some (.map es c) ∧ Fit Tryz.prog 70 R0 es c ∧ es.toList.map (fun e => (e.key, e.val)) = ks.map fun p => (Value.agg (vec 25 p.1), swV p.2) := by
  obtain ⟨es, c, hb, hk, hs⟩ := h
  refine ⟨es, c, hb, ⟨?_, hs, fun x hx => ?_⟩, hk⟩
  · have := congrArg List.length hk
    simp at this
    unfold maxLen; omega
  · obtain ⟨l, hl⟩ := imgMap_keys hk hw x hx
    exact ⟨(l, .nil), by unfold rd; rw [hl]; rfl⟩
theorem wpList_rangeIM (w : World) {ops : Array Oper} {rest : List Oper} {o : Oper} {a : Act} {Q : Exit → Act → World → Prop} {b : Nat} {ks : List ((Nat → Int) × Sw)} (hg : o.guard = none) (m : Operand) (hop : o.op = Op.range 74 m) (hm : a.eval m = .map (some b)) (h : ImgMap w b ks) (hw : ∀ p ∈ ks, WfI p.1) (hn : ks.length ≤ 70000)
    (hK : ∀ w' lf, IMR w' b w.heap.size ks lf → (∀ p ∈ ks, ∀ l, keyOf Tryz.prog 70 (.agg (vec 25 p.1)) = some l → lf l = true) → Below w.heap.size w w' → w'.heap.size = w.heap.size + 1 → wpList Tryz.prog ops Q rest (a.put o.dst (.pointer (some ⟨w.heap.size, 0, none⟩))) w') : wpList Tryz.prog ops Q (o :: rest) a w := by
  obtain ⟨es, c, hb, F, hk⟩ := imgMap_fit h hw hn
  have hown : w.ownsMap Tryz.prog 70 R0 b es.size (.map ((es.toList.map (rg Tryz.prog 70 R0)).foldr DataW.insert [])) := ⟨es, c, hb, F, Nat.le_refl _, rfl⟩
  refine wpList_range_own w hg m _ hop _ _ Tryz.imgLaw Tryz.underlying74 _ b _ _ hm hown fun w' h1 h2 h3 => ?_
  have hbel := grown_below h2 (fun k hk => by cases hk) (Nat.le_refl _)
  refine hK w' _ ⟨⟨_, _, _, h1⟩, imgMap_below h hbel⟩ (fun p hp l hl => ?_) hbel h3
  have hmem : (Value.agg (vec 25 p.1), swV p.2) ∈ es.toList.map (fun e => (e.key, e.val)) := by rw [hk]; exact List.mem_map.2 ⟨p, hp, rfl⟩
  obtain ⟨x, hx, hxe⟩ := List.mem_map.1 hmem
  simp only [Prod.mk.injEq] at hxe
  have hrg : rg Tryz.prog 70 R0 x = (l, .nil) := by
    refine rg_of ?_
    unfold rd
    rw [hxe.1, hl]; rfl
  show (List.foldr DataW.insert [] (es.toList.map (rg Tryz.prog 70 R0))).any (fun p => p.1.sameKey l) = true
  refine List.any_eq_true.2 ⟨(l, .nil), ?_, WideAt.sameKey_self (Tryz.imgLaw.key hl)⟩
  rw [← hrg]
  exact mem_sorted.2 (List.mem_map.2 ⟨x, hx, rfl⟩)
theorem wpList_nextIM (w : World) {ops : Array Oper} {rest : List Oper} {o : Oper} {a : Act} {Q : Exit → Act → World → Prop} {b r : Nat} {ks : List ((Nat → Int) × Sw)} {lf : Lit → Bool} (hg : o.guard = none) (it : Operand) (hop : o.op = Op.next it false)
    (hit : a.eval it = .pointer (some ⟨r, 0, none⟩)) (h : IMR w b r ks lf)
    (hDone : (∀ l, lf l = false) → wpList Tryz.prog ops Q rest (a.put o.dst (.tuple #[.bool false])) w)
    (hMore : ∀ (p : (Nat → Int) × Sw) (l : Lit) (u : Value) (w' : World), p ∈ ks → keyOf Tryz.prog 70 (.agg (vec 25 p.1)) = some l → IMR w' b r ks (fun z => lf z && !z.sameKey l) → w'.rangeLeft b r < w.rangeLeft b r → w.grownBy w' (some r) → w'.heap.size = w.heap.size →
      (Instr.entry (.pointer (some ⟨r, 0, none⟩))).run Tryz.prog w' = .ok (.tuple #[.agg (vec 25 p.1), u]) w' → wpList Tryz.prog ops Q rest (a.put o.dst (.tuple #[.bool true, .agg (vec 25 p.1), u])) w') : wpList Tryz.prog ops Q (o :: rest) a w := by
  obtain ⟨⟨n, D, cnt, h1⟩, h2⟩ := h
  refine wpList_next_ranges w hg it hop _ Tryz.imgLaw R0 (fun v : Value => v) (fun v : Value => v) (fun key _ _ => ⟨key, rfl⟩) (fun v _ _ => ⟨v, rfl⟩) b r n D lf cnt hit h1 (fun _ hl => hDone hl) fun x u l y w' cnt' q1 q2 q3 q4 q5 q6 q7 q8 q9 => ?_
  have h1' := h1
  obtain ⟨es, clock, since, seen, c0, hb, F, hs, hD, hr, hold, hcnt, hlf, hex, -⟩ := h1
  obtain ⟨es', c', hb', hk, hst⟩ := id h2
  rw [hb] at hb'
  simp only [Option.some.injEq, Obj.map.injEq] at hb'
  obtain ⟨rfl, rfl⟩ := hb'
  obtain ⟨z, hz, hzl⟩ := hex l q2
  obtain ⟨yz, hyz⟩ := F.reads z hz
  rw [rg_of hyz] at hzl
  have hzk := rd_key hyz
  rw [hzl] at hzk
  have hxz : z.key = x := Tryz.imgLaw.inj hzk q1
  have hmem : (z.key, z.val) ∈ es.toList.map (fun e => (e.key, e.val)) := List.mem_map.2 ⟨z, hz, rfl⟩
  rw [hk] at hmem
  obtain ⟨p, hp, hpe⟩ := List.mem_map.1 hmem
  simp only [Prod.mk.injEq] at hpe
  obtain rfl : x = .agg (vec 25 p.1) := by rw [← hxz, ← hpe.1]
  have hne : b ≠ r := by
    intro e
    subst e
    rw [hb] at hr; cases hr
  exact hMore p l u w' hp q1 ⟨⟨n, D, cnt', q5⟩, imgMap_grown h2 q7 (by intro e; exact hne (Option.some.inj e).symm)⟩ (by rw [q5.left_eq, h1'.left_eq]; exact q6) q7 q8 q9
end Go.Proofs.YtpfaaglaeholbaaGreat
/-
  GreatestPath of both, walked.
-/
namespace Go.Proofs.YtpfaaglaeholbaaGreat
open Go.RowKit
set_option maxRecDepth 100000

theorem great_no {r c : List Int} {w w' : World} (h : (existsOf r c && (decide (r.length ≤ 4) && decide (c.length ≤ 4))) = false) (hb : Below w.heap.size w w') : GreatRes r c w (.returned (.int .i64 (-1))) w' :=
  ⟨-1, rfl, hb, fun _ => rfl, fun e => by rw [h] at e; cases e⟩
theorem great_yes {r c : List Int} {w w' : World} {N : Nat} (h : (existsOf r c && (decide (r.length ≤ 4) && decide (c.length ≤ 4))) = true) (hg : Great (imgL leastCh r c) N) (hb : Below w.heap.size w w') : GreatRes r c w (.returned (.int .i64 (N : Nat))) w' :=
  ⟨_, rfl, hb, fun e => (by rw [h] at e; cases e), fun _ => ⟨N, rfl, hg⟩⟩
theorem great_left {R C : Nat} {m : List (List Int)} {L : List (List (List Int))} {V : List (List Sw)} {K g n i : Nat} {lf : Lit → Bool} {l : Lit} (hm : Node R C m) (h : Bfs m L V L.length K) (hi : i < L.length) (hn : (V.getD i []).length = n) (hl : keyOf Tryz.prog 70 (.agg (vec 25 (imgC R C (L.getD i [])))) = some l)
    (hall : ∀ j, j < L.length → ∀ k, keyOf Tryz.prog 70 (.agg (vec 25 (imgC R C (L.getD j [])))) = some k → lf k = true ∨ (V.getD j []).length ≤ g) :
    ∀ j, j < L.length → ∀ k, keyOf Tryz.prog 70 (.agg (vec 25 (imgC R C (L.getD j [])))) = some k → (lf k && !k.sameKey l) = true ∨ (V.getD j []).length ≤ max g n := by
  intro j hj k hk
  by_cases e : k = l
  · subst e
    have h1 := Tryz.imgLaw.inj hk hl
    simp only [Value.agg.injEq] at h1
    have h2 := imgC_inj (bfs_node hm h hj) (bfs_node hm h hi) h1
    have h3 := bfs_inj hm h hj hi h2
    subst h3
    right; omega
  · rcases hall j hj k hk with h1 | h1
    · left; rw [h1, Maps.sameKey_ne e]; rfl
    · right; omega
set_option maxHeartbeats 4000000 in
theorem implGreat_any (va vb : Value) (r c : List Int) (w : World) (ha : RowC w va r) (hb : RowC w vb c) :
    Calls Tryz.prog 23 #[va, vb] w (GreatRes r c w) := by
  have HL := hide (implLeast_any va vb r c w ha hb)
  obtain ⟨xa, xc, rfl, hma, -⟩ := ha.1
  obtain ⟨ya, yc, rfl, hmb, -⟩ := hb.1
  obtain ⟨R, hR⟩ : ∃ R, R = r.length := ⟨_, rfl⟩
  obtain ⟨C, hC⟩ : ∃ C, C = c.length := ⟨_, rfl⟩
  have HR := hide hR; have HC := hide hC
  unfold maxLen at hma hmb
  rw [← hR] at hma HL ⊢
  rw [← hC] at hmb HL ⊢
  clear ha hb hR hC
  cases h : existsOf r c with
  | false =>
    rw [h] at HL
    have HF := hide (show (existsOf r c && (decide (r.length ≤ 4) && decide (c.length ≤ 4))) = false by rw [h]; rfl)
    clear h
    go_enter Tryz.func23, Tryz.ntmps23
    go_wp2_with ((with_reducible refine HL.out.mono ?_); rintro e w1 ⟨u, rfl, ho, hb1⟩)
    go_ret
    exact great_no HF.out hb1
  | true =>
    rw [h, if_pos rfl] at HL
    by_cases hs : R ≤ 4 ∧ C ≤ 4
    · obtain ⟨hR4, hC4⟩ := hs
      have HF := hide (show (existsOf r c && (decide (r.length ≤ 4) && decide (c.length ≤ 4))) = true by rw [h, ← HR.out, ← HC.out, decide_eq_true hR4, decide_eq_true hC4]; rfl)
      obtain ⟨f, hf, hI⟩ := least_mk h
      rw [← HR.out, ← HC.out] at hf hI
      have HG := hide hf
      rw [hf] at HL
      have HI := hide hI
      have hm : Node R C (mkM R C f) := ⟨f, rfl, hI⟩
      have HM := hide hm
      have HSE := hide fun w => searched_any R C (mkM R C f) (mkM R C f) [] w hm hm hR4 hC4 rfl
      have hSIZE := fun L W a K (h : Bfs (mkM R C f) L W a K) => bfs_size hm hR4 hC4 h
      have HSIZE := hide hSIZE
      rw [imgC_mk] at HSE
      obtain ⟨m, hmm⟩ : ∃ m, m = mkM R C f := ⟨_, rfl⟩
      rw [← hmm] at HM HSE HSIZE HG
      have hRI : (R : Int) ≤ 4 := by omega
      have hCI : (C : Int) ≤ 4 := by omega
      clear h hf hI hm hSIZE hmm
      go_enter Tryz.func23, Tryz.ntmps23
      go_wp2_with fail
      refine HL.out.mono ?_
      rintro e w1 ⟨u, rfl, ho, hb1⟩
      have HO := hide (inMat_own ho); have HB1 := hide hb1
      clear ho hb1
      go_wp2_with fail
      refine (imageOf_yes u R C f _ HO.out HI.out).mono ?_
      rintro e w2 ⟨rfl, hb2⟩
      have HB2 := hide (HB1.out.trans (hb2.mono HB1.out.size))
      clear hb2
      go_wp2_with (first | ((with_reducible refine wpList_allocVec 25 7 rfl rfl rfl Tryz.zeroImg ?_); intro wab hab bab sab) | ((with_reducible refine wpList_storeVec hab rfl (.tmp 7) (.tmp 33) rfl rfl rfl Tryz.sizeImg ?_); intro wbb hbb gbb sbb) | (with_reducible refine wpList_loadVec hbb 35 rfl rfl _ rfl rfl Tryz.underlying70 Tryz.sizeImg ?_) | (with_reducible refine wpList_loadVec hbb 36 rfl rfl _ rfl rfl Tryz.underlying70 Tryz.sizeImg ?_))
      have HB3 := hide (HB2.out.trans ((bab.trans (grown_below gbb (fun k hk => by cases hk; exact Nat.le_refl _) bab.size)).mono HB2.out.size))
      clear hab bab sab hbb gbb sbb
      refine (HSE.out _).mono ?_
      rintro e w5 ⟨rfl, L, V, a, K, hbf, hmem, hmap, hb5, hall⟩
      obtain rfl := hall rfl
      obtain ⟨b, hbb⟩ : ∃ b, b = wbb.heap.size + 2 := ⟨_, rfl⟩
      rw [← hbb] at hmap ⊢
      have HBF := hide hbf; have HMAP := hide hmap; have HB5 := hide (HB3.out.trans (hb5.mono HB3.out.size))
      have HWF := hide (ksOf_wf HM.out hbf)
      have HLEN := hide (show (ksOf R C L V).length ≤ 70000 by rw [ksOf_len]; have := HSIZE.out L V _ K hbf; omega)
      have HVL := hide (bfs_wlen hbf)
      have hL := HSIZE.out L V _ K hbf
      clear hbf hmem hmap hb5 hall hbb
      go_wp2_with (at_range; refine wpList_rangeIM w5 rfl _ rfl rfl HMAP.out HWF.out HLEN.out ?_; intro w6 lf hir hst hb6 hs6; have HIR := hide hir; have HB6 := hide (HB5.out.trans (hb6.mono HB5.out.size)); have HST := hide hst; clear hir hst hb6)
      have hqw0 := HB5.out.size
      obtain ⟨q, hq⟩ : ∃ q, q = w5.heap.size := ⟨_, rfl⟩
      have hqw : w.heap.size ≤ q := by omega
      rw [← hq] at HIR ⊢
      clear hq hs6
      go_frame
      go_loopw [10] (fun gv wr => ∃ (g : Nat) (lf : Lit → Bool), gv = .int .i64 g ∧ IMR wr b q (ksOf R C L V) lf ∧ (g = 0 ∨ ∃ i, i < L.length ∧ (V.getD i []).length = g) ∧ (∀ j, j < L.length → ∀ k, keyOf Tryz.prog 70 (.agg (vec 25 (imgC R C (L.getD j [])))) = some k → lf k = true ∨ (V.getD j []).length ≤ g) ∧ g ≤ 65536 ∧ Below w.heap.size w wr) (fun _ wr => wr.rangeLeft b q)
      case atStart => exact ⟨0, lf, rfl, HIR.out, .inl rfl, fun j hj k hk => .inl (HST.out _ (ksOf_at hj) k hk), by omega, HB6.out⟩
      case round =>
        clear HIR HB6 HST
        obtain ⟨g, lf2, rfl, hir, hor, hall, hg, hb⟩ := hrel
        have HIR := hide hir; have HOR := hide hor; have HALL := hide hall; have HB := hide hb
        clear hir hor hall hb
        go_wp2_with (at_next; refine wpList_nextIM wr rfl _ rfl rfl HIR.out ?_ ?_)
        · intro hd
          have HD := hide hd
          clear hd
          go_wp2
          go_ret
          refine great_yes HF.out ?_ HB.out
          rw [HG.out]
          refine great_bfs HM.out HBF.out (fun i hi => ?_) HOR.out
          obtain ⟨k, hk⟩ := img_key (imgC_wf (bfs_node HM.out HBF.out hi))
          rcases HALL.out i hi k hk with h1 | h1
          · rw [HD.out] at h1; cases h1
          · exact h1
        · intro F0 s0 l uv w7 hp hl hir7 hlt7 hg7 hs7 hen
          obtain ⟨i, hi, e⟩ := ksOf_mem hp
          simp only [Prod.mk.injEq] at e
          obtain ⟨rfl, -⟩ := e
          obtain ⟨F, hF⟩ : ∃ F, F = imgC R C (L.getD i []) := ⟨_, rfl⟩
          have HFF := hide hF
          obtain ⟨n, hn⟩ : ∃ n, n = (V.getD i []).length := ⟨_, rfl⟩
          have HN := hide hn
          have hn2 : n ≤ 65536 := by have := HVL.out i hi; omega
          have HPT := hide fun w h => pathTo_any reverse_any w HM.out hR4 hC4 HBF.out hi (b := b) h
          have HLFT := hide (great_left HM.out HBF.out hi hn.symm hl HALL.out)
          have HIR7 := hide hir7; have HLT7 := hide hlt7
          have HB7 := hide (HB.out.grown hg7 HB.out.size (fun k hk => by cases hk; exact hqw))
          rw [← hF] at hen HPT
          have hmx : max (g : Int) (n : Int) = ((max g n : Nat) : Int) := by omega
          rw [← hF]
          clear hp hl hir7 hlt7 hg7 hs7 hF hn HALL HIR
          go_wp2_with (first | ((with_reducible refine wpList_allocVec 25 11 rfl rfl rfl Tryz.zeroImg ?_); intro wa ha ba sa) | ((with_reducible refine wpList_storeVec ha rfl (.tmp 11) (.tmp 43) rfl rfl rfl Tryz.sizeImg ?_); intro wb hb gb sb; have bb := ba.trans (grown_below gb (fun k hk => by cases hk; exact Nat.le_refl _) ba.size); have HIR8 := hide (imr_below HIR7.out bb); have HLE8 := hide (imr_left HIR7.out bb); have HB8 := hide (HB7.out.trans (bb.mono HB7.out.size)); have hb0 := hb; clear ha ba sa gb sb bb) | (with_reducible refine wpList_loadVec hb0 46 rfl rfl _ rfl rfl Tryz.underlying70 Tryz.sizeImg ?_))
          refine (HPT.out _ HIR8.out.2).mono ?_
          rintro e w9 ⟨pv, rfl, hp9, hb9⟩
          obtain ⟨pa, pc, rfl⟩ := ownA_slice hp9
          have HIR9 := hide (imr_below HIR8.out hb9); have HLE9 := hide ((imr_left HIR8.out hb9).trans HLE8.out); have HB9 := hide (HB8.out.trans (hb9.mono HB8.out.size))
          rw [← HN.out]
          clear hp9 hb9
          go_wp2
          go_roundw
          case rel => exact ⟨max g n, _, rfl, HIR9.out, by
            have := HOR.out
            rcases Nat.le_total n g with hle | hle
            · rw [Nat.max_eq_left hle]; exact this
            · rw [Nat.max_eq_right hle]; exact .inr ⟨i, hi, HN.out.symm⟩, HLFT.out, by omega, HB9.out⟩
          case measure =>
            rw [HLE9.out]; exact HLT7.out
    · have HF := hide (show (existsOf r c && (decide (r.length ≤ 4) && decide (c.length ≤ 4))) = false by
        rw [← HR.out, ← HC.out]
        cases h1 : decide (R ≤ 4) <;> cases h2 : decide (C ≤ 4) <;> simp at h1 h2 ⊢
        exact absurd ⟨h1, h2⟩ hs)
      clear h
      by_cases hR4 : R ≤ 4
      · have hC4 : (4 : Int) < (C : Int) := by omega
        have hRI : (R : Int) ≤ 4 := by omega
        clear hs
        go_enter Tryz.func23, Tryz.ntmps23
        go_wp2_with ((with_reducible refine HL.out.mono ?_); rintro e w1 ⟨u, rfl, ho, hb1⟩)
        go_ret
        exact great_no HF.out hb1
      · have hRI : (4 : Int) < (R : Int) := by omega
        clear hs
        go_enter Tryz.func23, Tryz.ntmps23
        go_wp2_with ((with_reducible refine HL.out.mono ?_); rintro e w1 ⟨u, rfl, ho, hb1⟩)
        go_ret
        exact great_no HF.out hb1
set_option maxHeartbeats 4000000 in
theorem specGreat_any (va vb : Value) (r c : List Int) (w : World) (ha : RowC w va r) (hb : RowC w vb c) :
    Calls Tryz.prog 21 #[va, vb] w (GreatRes r c w) := by
  have HA := hide ha; have HBB := hide hb
  have HEX := hide (specExists_any va vb r c w ha.1 hb.1)
  obtain ⟨xa, xc, rfl, hma, -⟩ := ha.1
  obtain ⟨ya, yc, rfl, hmb, -⟩ := hb.1
  obtain ⟨R, hR⟩ : ∃ R, R = r.length := ⟨_, rfl⟩
  obtain ⟨C, hC⟩ : ∃ C, C = c.length := ⟨_, rfl⟩
  have HR := hide hR; have HC := hide hC
  unfold maxLen at hma hmb
  rw [← hR] at hma HEX HA ⊢
  rw [← hC] at hmb HEX HBB ⊢
  clear ha hb hR hC
  cases h : existsOf r c with
  | false =>
    rw [h] at HEX
    have HF := hide (show (existsOf r c && (decide (r.length ≤ 4) && decide (c.length ≤ 4))) = false by rw [h]; rfl)
    clear h
    go_enter Tryz.func21, Tryz.ntmps21
    go_wp2_with ((with_reducible refine HEX.out.mono ?_); rintro e w1 ⟨rfl, hb1⟩)
    go_ret
    exact great_no HF.out hb1
  | true =>
    rw [h] at HEX
    by_cases hs : R ≤ 4 ∧ C ≤ 4
    · obtain ⟨hR4, hC4⟩ := hs
      have HF := hide (show (existsOf r c && (decide (r.length ≤ 4) && decide (c.length ≤ 4))) = true by rw [h, ← HR.out, ← HC.out, decide_eq_true hR4, decide_eq_true hC4]; rfl)
      obtain ⟨f, hf, hI⟩ := least_mk h
      rw [← HR.out, ← HC.out] at hf hI
      have HG := hide hf
      have HI := hide hI
      have HM : Hid (Node R C (mkM R C f)) := hide ⟨f, rfl, hI⟩
      have HALL := hide fun w' hb => specAll_start r c _ _ w w' HA.out HBB.out.1 h hb
      obtain ⟨hr5, hc5, -⟩ := sumsOk_yes (existsOf_sums h)
      obtain ⟨l0, hl0⟩ := all_first r c hr5.2 hc5 (img_of_exists h)
      rw [hf] at hl0
      have HL0 := hide hl0
      have hRI : (R : Int) ≤ 4 := by omega
      have hCI : (C : Int) ≤ 4 := by omega
      clear h hf hI hr5 hc5 hl0
      go_enter Tryz.func21, Tryz.ntmps21
      go_wp2_with fail
      refine HEX.out.mono ?_
      rintro e w1 ⟨rfl, hb1⟩
      have HB1 := hide hb1
      clear hb1
      go_wp2_with fail
      refine (HALL.out _ HB1.out).mono ?_
      rintro e w2 ⟨u, rfl, hu, hb2⟩
      rw [HL0.out] at hu
      obtain ⟨g, gc, xa', xn, xc', rfl, hg, hcell, hx⟩ := imgs_at (a := 0) hu (by simp)
      have HX := hide (show InMat w2 (.slice xa' xn xc') (mkM R C f) by obtain ⟨_, -, h3⟩ := hx; exact inMat_own h3)
      have HB2 := hide hb2
      obtain ⟨n, hn⟩ : ∃ n, n = (mkM R C f :: l0).length := ⟨_, rfl⟩
      have hn0 : 0 < n := by rw [hn]; simp
      have hn0I : (0 : Int) < (n : Int) := by omega
      rw [← hn]
      clear hu hb2 hx hn
      go_wp2_with fail
      refine (visit_at (.slice xa' xn xc') R C f _ HX.out HI.out hR4 hC4).mono ?_
      rintro e w3 ⟨vl, vw, L, V, K, rfl, -, hw, hbf, hb3⟩
      have HBF := hide hbf; have HB3 := hide (HB2.out.trans (hb3.mono HB2.out.size))
      obtain ⟨aw, cw, rfl, hp⟩ := hw
      have HVL := hide (bfs_wlen hbf)
      have hpos : 0 < V.length := by rw [hbf.len]; exact hbf.pos
      have HLEN := hide hbf.len
      have hsz := bfs_size HM.out hR4 hC4 hbf
      obtain ⟨gw, rfl, hgw, hc⟩ := hp.resolve_left (by omega)
      have HCW := hide hc
      obtain ⟨N, hN⟩ : ∃ N, N = V.length := ⟨_, rfl⟩
      have HN := hide hN
      have hN6 : N ≤ 65536 := by rw [hN, HLEN.out]; exact hsz
      rw [← hN]
      clear hbf hb3 hc hN hp hpos hcell hg hsz
      go_wp2
      go_loopw [7, 35] (fun gv t wr => ∃ (g k : Nat), gv = .int .i64 g ∧ t = .int .i64 k ∧ k ≤ N ∧ w3 = wr ∧ (g = 0 ∨ ∃ i, i < L.length ∧ (V.getD i []).length = g) ∧ (∀ i, i < k → (V.getD i []).length ≤ g) ∧ g ≤ 65536) (fun _ t _ => N - (intOf t).toNat)
      case atStart => exact ⟨0, 0, rfl, rfl, Nat.zero_le _, rfl, .inl rfl, fun i hi => absurd hi (Nat.not_lt_zero _), by omega⟩
      case round =>
        obtain ⟨g, k, rfl, rfl, hk, rfl, hor, hall, hg6⟩ := hrel
        have HOR := hide hor; have HALL2 := hide hall
        clear hor hall
        by_cases hlt : k < N
        · have hltI : (k : Int) < (N : Int) := by omega
          have hkV : k < V.length := by rw [← HN.out]; exact hlt
          obtain ⟨x, hx, hox⟩ := HCW.out k hkV
          obtain ⟨pa, pc, rfl⟩ := ownA_slice hox
          obtain ⟨n2, hn2⟩ : ∃ n2, n2 = V[k].length := ⟨_, rfl⟩
          rw [← hn2] at hx
          have hgd : (V.getD k []).length = n2 := by rw [hn2, List.getD_eq_getElem?_getD, List.getElem?_eq_getElem hkV]; rfl
          have HGD := hide hgd
          have hn26 : n2 ≤ 65536 := by have := HVL.out k (by rw [← HLEN.out]; exact hkV); omega
          have hmx : max (g : Int) (n2 : Int) = ((max g n2 : Nat) : Int) := by omega
          have HKL := hide (show k < L.length by rw [← HLEN.out]; exact hkV)
          clear hox hn2 hgd hkV
          go_wp2
          go_roundw
          case rel => exact ⟨max g n2, k + 1, rfl, by go_num, by omega, by first | rfl | trivial, by
            have := HOR.out
            rcases Nat.le_total n2 g with hle | hle
            · rw [Nat.max_eq_left hle]; exact this
            · rw [Nat.max_eq_right hle]; exact .inr ⟨k, HKL.out, HGD.out⟩, fun i hi => by
            by_cases e : i = k
            · subst e; have := HGD.out; omega
            · have := HALL2.out i (by omega); omega, by omega⟩
          case measure => simp [intOf]; omega
        · obtain rfl : k = N := by omega
          go_wp2
          go_ret
          refine great_yes HF.out ?_ HB3.out
          rw [HG.out]
          exact great_bfs HM.out HBF.out (fun i hi => HALL2.out i (by rw [HN.out, HLEN.out]; exact hi)) HOR.out
    · have HF := hide (show (existsOf r c && (decide (r.length ≤ 4) && decide (c.length ≤ 4))) = false by
        rw [← HR.out, ← HC.out]
        cases h1 : decide (R ≤ 4) <;> cases h2 : decide (C ≤ 4) <;> simp at h1 h2 ⊢
        exact absurd ⟨h1, h2⟩ hs)
      clear h
      by_cases hR4 : R ≤ 4
      · have hC4 : (4 : Int) < (C : Int) := by omega
        have hRI : (R : Int) ≤ 4 := by omega
        clear hs
        go_enter Tryz.func21, Tryz.ntmps21
        go_wp2_with ((with_reducible refine HEX.out.mono ?_); rintro e w1 ⟨rfl, hb1⟩)
        go_ret
        exact great_no HF.out hb1
      · have hRI : (4 : Int) < (R : Int) := by omega
        clear hs
        go_enter Tryz.func21, Tryz.ntmps21
        go_wp2_with ((with_reducible refine HEX.out.mono ?_); rintro e w1 ⟨rfl, hb1⟩)
        go_ret
        exact great_no HF.out hb1
end Go.Proofs.YtpfaaglaeholbaaGreat
/-
  The exact law on GreatestPath, out of the contracts.
-/
namespace Go.Proofs.YtpfaaglaeholbaaGreat
open Go.RowKit
set_option linter.unusedVariables false

/-- What GreatestPath answers, as a number. -/
def GreatP (r c : List Int) (M : Int) : Prop := ((existsOf r c && (decide (r.length ≤ 4) && decide (c.length ≤ 4))) = false → M = -1) ∧ ((existsOf r c && (decide (r.length ≤ 4) && decide (c.length ≤ 4))) = true → ∃ N : Nat, M = N ∧ Great (imgL leastCh r c) N)
theorem greatP_one {r c : List Int} {M N : Int} (h : GreatP r c M) (h2 : GreatP r c N) : M = N := by
  cases e : (existsOf r c && (decide (r.length ≤ 4) && decide (c.length ≤ 4))) with
  | false => rw [h.1 e, h2.1 e]
  | true =>
    obtain ⟨a, rfl, ha⟩ := h.2 e
    obtain ⟨b, rfl, hb⟩ := h2.2 e
    rw [great_one ha hb]
open Classical in
noncomputable def greatOf (r c : List Int) : Int := if h : ∃ M, GreatP r c M then h.choose else 0
theorem greatOf_is {r c : List Int} {M : Int} (h : GreatP r c M) : M = greatOf r c := by
  have hex : ∃ M, GreatP r c M := ⟨M, h⟩
  unfold greatOf
  rw [dif_pos hex]
  exact greatP_one h hex.choose_spec
theorem greatRes_eq {r c : List Int} {w w' : World} {e : Ending} (h : GreatRes r c w e w') : e = .returned (.int .i64 (greatOf r c)) ∧ Below w.heap.size w w' := by
  obtain ⟨M, rfl, hb, h1, h2⟩ := h
  rw [greatOf_is ⟨h1, h2⟩]
  exact ⟨rfl, hb⟩

set_option maxRecDepth 100000 in
set_option maxHeartbeats 1000000 in
theorem lawGreatestPath_gen (a0 : Option Addr) (n0 c0 : Nat) (r0 : List Int) (a1 : Option Addr) (n1 c1 : Nat) (r1 : List Int) (w : World) (hin0 : InRow w (.slice a0 n0 c0) r0) (hin1 : InRow w (.slice a1 n1 c1) r1) (val : Int)
    (hs : r0.length ≤ 1048576 → r1.length ≤ 1048576 → ∀ (v0 : Value) (v1 : Value) (w : World), RowC w v0 r0 → RowC w v1 r1 → Calls Tryz.prog 21 #[v0, v1] w fun e w' => e = .returned (.int .i64 val) ∧ Below w.heap.size w w')
    (hi : r0.length ≤ 1048576 → r1.length ≤ 1048576 → ∀ (v0 : Value) (v1 : Value) (w : World), RowC w v0 r0 → RowC w v1 r1 → Calls Tryz.prog 23 #[v0, v1] w fun e w' => e = .returned (.int .i64 val) ∧ Below w.heap.size w w') :
    Calls Tryz.prog 5 #[.slice a0 n0 c0, .slice a1 n1 c1] w fun e w' => e = .returned (.bool true) ∧ Below w.heap.size w w' := by
  have HI0 := hide hin0
  obtain ⟨a', c', he, hm0, -⟩ := hin0
  cases he
  unfold maxLen at hm0
  have HI1 := hide hin1
  obtain ⟨a', c', he, hm1, -⟩ := hin1
  cases he
  unfold maxLen at hm1
  by_cases hr0 : 1048576 < r0.length
  · clear hs hi
    obtain ⟨R0, hR0⟩ : ∃ R0, R0 = r0.length := ⟨_, rfl⟩
    obtain ⟨R1, hR1⟩ : ∃ R1, R1 = r1.length := ⟨_, rfl⟩
    rw [← hR0] at HI0 hm0 hr0 ⊢
    rw [← hR1] at HI1 hm1 ⊢
    clear hR0 hR1
    go_enter Tryz.func5, Tryz.ntmps5
    go_wp2
    go_ret
    exact ⟨rfl, Below.refl _ _⟩
  · by_cases hr1 : 1048576 < r1.length
    · clear hs hi
      obtain ⟨R0, hR0⟩ : ∃ R0, R0 = r0.length := ⟨_, rfl⟩
      obtain ⟨R1, hR1⟩ : ∃ R1, R1 = r1.length := ⟨_, rfl⟩
      rw [← hR0] at HI0 hm0 hr0 ⊢
      rw [← hR1] at HI1 hm1 hr1 ⊢
      clear hR0 hR1
      go_enter Tryz.func5, Tryz.ntmps5
      go_wp2
      go_ret
      exact ⟨rfl, Below.refl _ _⟩
    · have HS := hide (hs (by omega) (by omega)); have HM := hide (hi (by omega) (by omega))
      have HR0 : Hid (r0.length ≤ 2000000) := hide (by omega)
      have HR1 : Hid (r1.length ≤ 2000000) := hide (by omega)
      clear hs hi
      go_enter Tryz.func5, Tryz.ntmps5
      go_wp2_with fail
      refine (toIntS_any _ r0 _ HR0.out HI0.out).mono ?_
      rintro e w1 ⟨ps0, rfl, ho, hb⟩
      have Ps0_1 := hide (rowC_own ho); have HB1 := hide (hb); clear ho hb
      go_wp2_with fail
      refine (toIntS_any _ r1 _ HR1.out (inRow_below HI1.out HB1.out)).mono ?_
      rintro e w2 ⟨ps1, rfl, ho, hb⟩
      have Ps0_2 := hide (rowC_below Ps0_1.out hb); have Ps1_2 := hide (rowC_own ho); have HB2 := hide (HB1.out.trans (hb.mono HB1.out.size)); clear ho hb
      go_wp2_with fail
      refine (HS.out ps0 ps1 _ Ps0_2.out Ps1_2.out).mono ?_
      rintro e w3 ⟨rfl, hb⟩
      have HB3 := hide (HB2.out.trans (hb.mono HB2.out.size)); clear hb
      go_wp2_with fail
      refine (toIntS_any _ r0 _ HR0.out (inRow_below HI0.out HB3.out)).mono ?_
      rintro e w4 ⟨px0, rfl, ho, hb⟩
      have Px0_4 := hide (rowC_own ho); have HB4 := hide (HB3.out.trans (hb.mono HB3.out.size)); clear ho hb
      go_wp2_with fail
      refine (toIntS_any _ r1 _ HR1.out (inRow_below HI1.out HB4.out)).mono ?_
      rintro e w5 ⟨px1, rfl, ho, hb⟩
      have Px0_5 := hide (rowC_below Px0_4.out hb); have Px1_5 := hide (rowC_own ho); have HB5 := hide (HB4.out.trans (hb.mono HB4.out.size)); clear ho hb
      go_wp2_with fail
      refine (HM.out px0 px1 _ Px0_5.out Px1_5.out).mono ?_
      rintro e w6 ⟨rfl, hb⟩
      have Px0_6 := hide (rowC_below Px0_5.out hb); have Px1_6 := hide (rowC_below Px1_5.out hb); have HB6 := hide (HB5.out.trans (hb.mono HB5.out.size)); clear hb
      go_wp2_with fail
      refine (toIntS_any _ r0 _ HR0.out (inRow_below HI0.out HB6.out)).mono ?_
      rintro e w7 ⟨py0, rfl, ho, hb⟩
      have Px0_7 := hide (rowC_below Px0_6.out hb); have Px1_7 := hide (rowC_below Px1_6.out hb); have Py0_7 := hide (rowC_own ho); have HB7 := hide (HB6.out.trans (hb.mono HB6.out.size)); clear ho hb
      go_wp2_with fail
      refine (eqIntS_same px0 py0 r0 _ Px0_7.out.1 Py0_7.out.1).mono ?_
      rintro e w8 ⟨rfl, hb⟩
      have Px1_8 := hide (rowC_below Px1_7.out hb); have HB8 := hide (HB7.out.trans (hb.mono HB7.out.size)); clear hb
      go_wp2_with fail
      refine (toIntS_any _ r1 _ HR1.out (inRow_below HI1.out HB8.out)).mono ?_
      rintro e w9 ⟨py1, rfl, ho, hb⟩
      have Px1_9 := hide (rowC_below Px1_8.out hb); have Py1_9 := hide (rowC_own ho); have HB9 := hide (HB8.out.trans (hb.mono HB8.out.size)); clear ho hb
      go_wp2_with fail
      refine (eqIntS_same px1 py1 r1 _ Px1_9.out.1 Py1_9.out.1).mono ?_
      rintro e w10 ⟨rfl, hb⟩
      have HB10 := hide (HB9.out.trans (hb.mono HB9.out.size)); clear hb
      go_wp2
      go_ret
      exact ⟨rfl, HB10.out⟩
theorem lawGreatestPath_walk (a : Option Addr) (n c : Nat) (r : List Int) (b : Option Addr) (k d : Nat) (s : List Int) (w : World) (hin : InRow w (.slice a n c) r) (hin2 : InRow w (.slice b k d) s) :
    Calls Tryz.prog 5 #[.slice a n c, .slice b k d] w fun e w' => e = .returned (.bool true) ∧ Below w.heap.size w w' :=
  lawGreatestPath_gen a n c r b k d s w hin hin2 (greatOf r s) (fun _ _ p q w hp hq => (specGreat_any p q r s w hp hq).mono fun _ _ h => greatRes_eq h) (fun _ _ p q w hp hq => (implGreat_any p q r s w hp hq).mono fun _ _ h => greatRes_eq h)
end Go.Proofs.YtpfaaglaeholbaaGreat
